/-
  SimSolves: what is carried along; the walk.
-/
import Derived.Test.YtafoohdndlhbnaaGreatFSST
import Derived.Test.YtafoohdndlhbnaaGreatFSSU
import Derived.Deep.DeepCutAuto
section
namespace Go.Proofs.YtafoohdndlhbnaaGreat
open Go.RowKit Go.Maps Bits Num
set_option maxRecDepth 100000

theorem getD_map' {α : Type} (L : List α) (f : α → Int) (k : Nat) (h : k < L.length) : (L.map f).getD k 0 = f L[k] := by simp [List.getD, h]
/-- A netlist, a simulation of it, and the cell that holds it. -/
structure Uno (w0 w : World) (B Cg : Nat) (q : NPl) (N : Nt) (P S : Nat) (q1 : NPl) (C : Nat → List Int) (i : Nat) (la : List Int) : Prop where
  at_ : AtN w0 B Cg w q N
  good : Good N []
  small : Small N
  s1 : ∃ p, SimIs w S q1 p N ⟨hasAt N C i, la, i⟩
  pc : w.cell? ⟨P, 0, none⟩ = some (.pointer (some ⟨S, 0, none⟩))
  ne : P ≠ S
  lo1 : w0.heap.size ≤ S
section
variable {w0 w w' : World} {B Cg : Nat} {q : NPl} {N : Nt} {P S : Nat} {q1 : NPl} {C : Nat → List Int} {i : Nat} {la : List Int}
theorem Uno.step (h : Uno w0 w B Cg q N P S q1 C i la) (hb : Below w.heap.size w w') : Uno w0 w' B Cg q N P S q1 C i la :=
  ⟨h.at_.step hb, h.good, h.small, let ⟨p, e⟩ := h.s1; ⟨p, e.below hb⟩, stepc hb (World.block_lt_of_cell? w _ h.pc) h.pc, h.ne, h.lo1⟩
theorem Uno.given (h : Uno w0 w B Cg q N P S q1 C i la) {a : Option Addr} {ln lc : Nat} {l : List Int} (hl : Row .u64 w a ln l) (hw : Words l) :
    Calls Tryz.prog 15 #[.pointer (some ⟨B, 0, none⟩), .slice a ln lc, .int .i64 0] w fun e w' => ∃ u, e = .returned u ∧ GR w' w.heap.size u (piecesG N l ++ List.replicate 0 [1]) ∧ Uno w0 w' B Cg q N P S q1 C i la ∧ Below w.heap.size w w' := by
  have := given_any h.at_.is h.good h.small (lc := lc) hl hw 0 (by omega)
  rw [h.at_.b] at this
  exact this.mono fun _ w' ⟨u, e, hG, hb⟩ => ⟨u, e, hG, h.step hb, hb⟩
theorem Uno.one (hC : ∀ i, Words (C i)) (h : Uno w0 w B Cg q N P S q1 C i la) (hi : i ≤ 1000) {base : Nat} {u : Value} (hG : GR w base u (piecesG N (C i) ++ List.replicate 0 [1])) :
    Calls Tryz.prog 14 #[.pointer (some ⟨S, 0, none⟩), u] w fun e w' => ∃ g : Nat, e = .returned (.tuple #[.slice (some ⟨g, 0, none⟩) N.outs.length N.outs.length, .int .i64 0]) ∧ ORow w' 0 g N.outs.length (outAt N C i) N.outs.length ∧ Uno w0 w' B Cg q N P S q1 C (i + 1) (wordsAt N C i) ∧ (∀ {base : Nat} {v : Value} {L : List (List Int)}, GR w base v L → GR w' base v L) ∧ ∀ {a : Option Addr} {n c : Nat} {l : List Int}, WR w a n c l → WR w' a n c l := by
  obtain ⟨p, e⟩ := h.s1
  refine (step_fn hC e hi hG).mono fun _ w' ⟨p', g, he, hO, hS, hk⟩ => ⟨g, he, hO.base (Nat.zero_le _), ?_, fun hg => hg.sim e hk, fun hW => hW.keptF hk e.self.2.1⟩
  refine ⟨h.at_.sim e h.lo1 hk, h.good, h.small, ⟨p', hS⟩, ?_, h.ne, h.lo1⟩
  have hl := World.block_lt_of_cell? w _ h.pc
  have hb := hk.block P hl h.ne
  have hp := h.pc
  simp only [World.cell?] at hp ⊢
  rw [hb]; exact hp
theorem Uno.regs (hC : ∀ i, Words (C i)) (h : Uno w0 w B Cg q N P S q1 C i la) :
    Calls Tryz.prog 18 #[.pointer (some ⟨S, 0, none⟩)] w fun e w' => ∃ (a2 : Option Addr) (c2 : Nat), e = .returned (.slice a2 N.regs.length c2) ∧ WR w' a2 N.regs.length c2 (hasAt N C i) ∧ Uno w0 w' B Cg q N P S q1 C i la ∧ Below w.heap.size w w' := by
  obtain ⟨p, e⟩ := h.s1
  refine (Regs_any e).mono fun _ w' ⟨a2, c2, he, ho, hb⟩ => ⟨a2, c2, he, ⟨?_, own_base ho (Nat.zero_le _), hasAt_words N C h.good hC i⟩, h.step hb, hb⟩
  cases i <;> simp [hasAt, iniR, nxR]
theorem Uno.cycles (h : Uno w0 w B Cg q N P S q1 C i la) :
    Calls Tryz.prog 19 #[.pointer (some ⟨S, 0, none⟩)] w fun e w' => e = .returned (.int .i64 i) ∧ w = w' := by
  obtain ⟨p, e⟩ := h.s1
  exact Cycles_any e
theorem Uno.word (h : Uno w0 w B Cg q N P S q1 C i la) (hi : 0 < i) {x : Int} (hx : There N.g x) :
    Calls Tryz.prog 22 #[.int .u32 x, .pointer (some ⟨P, 0, none⟩)] w fun e w' => e = .returned (.int .u64 (wordV x la)) ∧ Below w.heap.size w w' := by
  obtain ⟨p, e⟩ := h.s1
  exact solveW_any h.pc e hx hi
theorem Uno.cells (h : Uno w0 w B Cg q N P S q1 C i la) : ∃ (ia : Option Addr) (ic : Nat) (ra : Option Addr) (rc : Nat) (oa : Option Addr) (oc : Nat), BusRow w (.slice ia N.ins.length ic) N.ins ∧ RegRow w (.slice ra N.regs.length rc) N.regs ∧ BusRow w (.slice oa N.outs.length oc) N.outs ∧
    w.cell? ⟨B, 0, none⟩ = some (.pointer (some ⟨Cg, 0, none⟩)) ∧ w.cell? ⟨B, 2, none⟩ = some (.slice ia N.ins.length ic) ∧ w.cell? ⟨B, 3, none⟩ = some (.slice ra N.regs.length rc) ∧ w.cell? ⟨B, 4, none⟩ = some (.slice oa N.outs.length oc) ∧ B < w.heap.size := by
  obtain ⟨ia, ic, ra, rc, oa, oc, e1, e2, e3, n0, n1, n2, n3, n4, -⟩ := h.at_.is.cells
  have hl := h.at_.is.lt
  rw [h.at_.b] at n0 n2 n3 n4 hl
  rw [h.at_.gb] at n0
  have r1 := h.at_.is.ins
  have r2 := h.at_.is.regs
  have r3 := h.at_.is.outs
  rw [e1] at r1; rw [e2] at r2; rw [e3] at r3
  exact ⟨ia, ic, ra, rc, oa, oc, r1, r2, r3, n0, n2, n3, n4, hl⟩
theorem ini_at (N : Nt) (C : Nat → List Int) {k : Nat} (hk : k < N.regs.length) : (hasAt N C 0).getD k 0 = iniW N.regs[k] := getD_map' _ _ _ hk
end
set_option maxHeartbeats 8000000 in
theorem SimSolves_any (F H : Bool) {w : World} {a : Option Addr} {n c : Nat} {S : Nat → StV} (hs : StRow w a n S) {a2 : Option Addr} {n2 c2 : Nat} {CC : List (List Int)} (hr : RRk .u64 w a2 n2 CC) (hw : ∀ i, Words (CC.getD i [])) :
    Calls Tryz.prog 4 #[.agg #[.bool F, .bool H], .slice a n c, .slice a2 n2 c2] w fun e w' => e = .returned (.bool true) ∧ Below w.heap.size w w' := by
  have hb0 : Below w.heap.size w (w.alloc (.cells #[.bool F, .bool H] 23)) := (Below.refl _ _).alloc (Nat.le_refl _) _
  have hbu := Lib.hid (Built_any F H (c := c) (w := w.alloc (.cells #[.bool F, .bool H] 23)) (by exact ⟨hs.le, by
    rcases hs.cells with h0 | ⟨b, off, e, hb, hc⟩
    · exact .inl h0
    · exact .inr ⟨b, off, e, Nat.lt_of_lt_of_le hb hb0.size, fun i hi => by obtain ⟨x0, x1, x2, x3, x4, x5, x6⟩ := hc i hi; exact ⟨stepc hb0 hb x0, stepc hb0 hb x1, stepc hb0 hb x2, stepc hb0 hb x3, stepc hb0 hb x4, stepc hb0 hb x5, stepc hb0 hb x6⟩⟩, fun i hi => (hs.ok i hi).step hb0⟩))
  have HR := Lib.hid hr
  have HW := Lib.hid hw
  have hb0 := Lib.hid hb0
  have hle2 := hr.2.1
  clear hs hr hw
  go_enter Tryz.func4, Tryz.ntmps4
  go_upto_region 5 with (first
    | (go_at_call 5; (with_reducible refine hbu.out.mono ?_); rintro e w2 ⟨B, Cg, Bd, Bg, q, p, N, rfl, hA, -, hG, hU⟩; have hSm := Lib.hid (hU.small (by omega)); have hnw1 := Lib.hid (SNew_any hA.is hG hSm.out); rw [hA.b] at hnw1; have hA := Lib.hid hA; have hG := Lib.hid hG; clear hU hbu)
    | (go_at_call 6; (with_reducible refine hnw1.out.mono ?_); rintro e w3 ⟨S1, q1, p1, rfl, hS1, hz1, -, hb3⟩; have hA3 := Lib.hid (hA.out.step hb3); have hS1 := Lib.hid hS1; have hb3 := Lib.hid hb3; clear hnw1))
  have hbb : w.heap.size ≤ (w.alloc (.cells #[.bool F, .bool H] 23)).heap.size := by simp
  generalize hw1 : w.alloc (.cells #[.bool F, .bool H] 23) = w1 at *
  have hS1l := hS1.out.lt
  have hba : Below w3.heap.size w3 (w3.alloc (.cells #[.pointer (some ⟨S1, 0, none⟩)] 30)) := (Below.refl _ _).alloc (Nat.le_refl _) _
  have hpc : (w3.alloc (.cells #[.pointer (some ⟨S1, 0, none⟩)] 30)).cell? ⟨w3.heap.size, 0, none⟩ = some (.pointer (some ⟨S1, 0, none⟩)) := by simp [go_sem]
  have h12 : w1.heap.size ≤ w2.heap.size := hA.out.below.size
  obtain ⟨C, hCe0⟩ : ∃ C : Nat → List Int, C = fun i => CC.getD i [] := ⟨_, rfl⟩
  have hC : Hid (∀ i, Words (C i)) := Lib.hid (fun i => by rw [hCe0]; exact HW.out i)
  have hCe := Lib.hid hCe0
  clear hCe0
  obtain ⟨P, hP⟩ : ∃ P, w3.heap.size = P := ⟨_, rfl⟩
  obtain ⟨wa, hwa⟩ : ∃ wa, w3.alloc (.cells #[.pointer (some ⟨S1, 0, none⟩)] 30) = wa := ⟨_, rfl⟩
  rw [hwa] at hpc hba ⊢
  rw [hP] at hpc ⊢
  have hU4 : Hid (Uno w1 wa B Cg q N P S1 q1 C 0 []) := Lib.hid ⟨hA3.out.step hba, hG.out, hSm.out, ⟨p1, hS1.out.below hba⟩, hpc, by omega, by omega⟩
  have hRR := Lib.hid (HR.out.step hb0.out)
  obtain ⟨ia, ic, ra, rc, oa, oc, r1, r2, r3, n0, n2c, n3, n4, hBl⟩ := hU4.out.cells
  have HI := Lib.hid r1
  have HG := Lib.hid r2
  have HO := Lib.hid r3
  have htl := Lib.hid tells_any8
  have hPl := World.block_lt_of_cell? wa _ hpc
  clear hS1 hA3 hA hb3 hz1 HR h12 hS1l hw1 hwa hba r1 r2 r3 hP
  go_wp2_with fail
  go_loopw [11, 12, 13, 61] (fun _ _ _ s61 wx => ∃ k : Nat, k ≤ N.regs.length ∧ s61 = .int .i64 k ∧ Hid (Below wa.heap.size wa wx)) (fun _ _ _ s61 _ => N.regs.length - (intOf s61).toNat)
  case atStart => exact ⟨0, Nat.zero_le _, rfl, Lib.hid (Below.refl _ _)⟩
  case round =>
    obtain ⟨k, hk, rfl, hB⟩ := hrel
    by_cases hlt : k < N.regs.length
    · obtain ⟨g2, hra, hgl, b0, b1, b2, b3⟩ := HG.out.at hlt
      subst hra
      have d0 := stepc hB.out hgl b0
      have d1 := stepc hB.out hgl b1
      have d2 := stepc hB.out hgl b2
      have d3 := stepc hB.out hgl b3
      have hpc2 := stepc hB.out hPl hpc
      have hb4 : Below wr.heap.size wr (wr.alloc (.cells #[.int .u32 N.regs[k].q, .int .u32 N.regs[k].d, .int .u32 N.regs[k].en, .bool N.regs[k].init] 71)) := (Below.refl _ _).alloc (Nat.le_refl _) _
      have hpc3 := stepc hb4 (World.block_lt_of_cell? wr _ hpc2) hpc2
      have hU5 := hU4.out.step (nextw hB.out hb4)
      have hrg := Lib.hid (hU5.regs hC.out)
      have hib := Lib.hid (ini_at N C hlt)
      have hB4 := Lib.hid (nextw hB.out hb4)
      have hnr := hSm.out.regs
      clear b0 b1 b2 b3 hU5 hb4
      generalize N.regs[k] = r at *
      obtain ⟨rq, rd, re, ri⟩ := r
      simp only [] at d0 d1 d2 d3 hrg hib hB4 hpc3
      have f3 : (wr.alloc (.cells #[.int .u32 rq, .int .u32 rd, .int .u32 re, .bool ri] 71)).cell? ⟨wr.heap.size, 3, none⟩ = some (.bool ri) := by simp [go_sem]
      have hge : decide ((N.regs.length : Int) ≤ (k : Int)) = false := by simp; omega
      -- @slow
      cases ri
      all_goals
        have hv := hib.out
        simp only [iniW, if_true, Bool.false_eq_true, if_false] at hv
        go_wp2_with (go_at_call 18; (with_reducible refine hrg.out.mono ?_); rintro e w5 ⟨ra5, rc5, rfl, hW5, hU5, hb5⟩; obtain ⟨b5, o5, h5, hb5', hc5⟩ := hW5.row.at (by omega); subst h5; have t5 := hc5 k hlt; rw [hv] at t5; have f5 := stepc hb5 (by simp) f3; have hB5 := Lib.hid (nextw hB4.out hb5); clear hc5 hW5 hU5 hrg)
        exact ⟨⟨k + 1, by omega, by go_num, hB5⟩, by simp [intOf]; omega⟩
      -- @end
    · obtain rfl : k = N.regs.length := by omega
      have hU0 := Lib.hid (hU4.out.step hB.out)
      obtain ⟨ww, rfl⟩ : ∃ ww : World, ww = wr := ⟨_, rfl⟩
      clear hU4 hpc HI HG HO n0 n2c n3 n4 hBl hPl hB
      go_wp2_with fail
      go_loopw [15, 16, 17, 18, 19, 20, 21, 22, 23, 24, 25, 26, 27, 28, 29, 30, 31, 32, 33, 34, 35, 36] (fun s15 _ _ _ _ _ _ _ _ _ _ _ _ _ _ _ _ _ _ _ _ _ wr => ∃ (i : Nat) (la : List Int), i ≤ min n2 20 ∧ s15 = .int .i64 i ∧ Hid (Uno w1 wr B Cg q N P S1 q1 C i la)) (fun s15 _ _ _ _ _ _ _ _ _ _ _ _ _ _ _ _ _ _ _ _ _ _ => min n2 20 - (intOf s15).toNat)
      case atStart => exact ⟨0, [], Nat.zero_le _, rfl, hU0⟩
      case round =>
        as_aux_lemma =>
        clear hU0
        obtain ⟨i, la, hi5, rfl, hUn⟩ := hrel
        by_cases hlt : i < min n2 20
        · have hin : i < n2 := by omega
          have hi20 : i < 20 := by omega
          obtain ⟨b, off, ha2, hb, hcl⟩ := hRR.out.at (by omega)
          obtain ⟨ai, ci, hc0, -, -, hrow⟩ := hcl i hin
          have hci : Hid (CC.getD i [] = C i) := Lib.hid (by rw [hCe.out])
          rw [hci.out] at hc0 hrow
          obtain ⟨mi, hmi⟩ : ∃ m, (C i).length = m := ⟨_, rfl⟩
          rw [hmi] at hc0 hrow
          have hcw := Lib.hid (fun w2 (hb2 : Below w1.heap.size w1 w2) => stepc hb2 hb hc0)
          have hc0 := stepc hUn.out.at_.below hb hc0
          have hrow := Lib.hid hrow
          have hd20 : decide ((i : Int) < 20) = true := by simp; omega
          have hrg := Lib.hid (hUn.out.regs hC.out)
          have hpc := hUn.out.pc
          have hgd := hSm.out.g
          have hT0 := Lib.hid (at_node (G := N.g) (by omega) (k := 0) hG.out.wf.pos)
          have hz01 := Lib.hid (at_zero (wordsAt N C i))
          subst ha2
          clear hcl hUn hmi
          go_upto_region 21 with (first
            | (go_at_call 18; (with_reducible refine hrg.out.mono ?_); rintro e w6 ⟨ra6, rc6, rfl, hW6, hU6, hb6⟩; have x6 := hcw.out _ hU6.at_.below; have hpc6 := hU6.pc; have hgv := Lib.hid (hU6.given (lc := ci) (hrow.out.step hU6.at_.below) (hC.out i)); have hW6 := Lib.hid hW6; clear hrg hU6 hb6)
            | (go_at_call 15; (with_reducible refine hgv.out.mono ?_); rintro e w7 ⟨u7, rfl, hG7, hU7, hb7⟩; have W7 := Lib.hid (hW6.out.below hb7); have hpc7 := hU7.pc; have hon := Lib.hid (hU7.one hC.out (by omega) hG7); have hG7 := Lib.hid hG7; clear hgv hU7 hb7 hW6)
            | (go_at_call 14; (with_reducible refine hon.out.mono ?_); rintro e w8 ⟨g8, rfl, hO8, hU8, kG, kW⟩; have hG8 := Lib.hid (kG hG7.out); have W8 := Lib.hid (kW W7.out); have hpc8 := hU8.pc; have hO8 := Lib.hid hO8; have hU8 := Lib.hid hU8; clear kG kW hG7 W7 hon))
          obtain ⟨ia, ic, ra, rc, oa, oc, r1, r2, r3, n0, n2c, n3, n4, hBl⟩ := hU8.out.cells
          have hcy := Lib.hid hU8.out.cycles
          have hwx := Lib.hid (fun wz (hb : Below w8.heap.size w8 wz) x (hx : There N.g x) => (hU8.out.step hb).word (by omega) hx)
          have hbk := Lib.hid (Below.refl w8.heap.size w8)
          have hw0 := hwx.out w8 hbk.out 0 (by have := hT0.out.1; simpa using this)
          rw [hz01.out.1] at hw0
          have hw0 := Lib.hid hw0
          have hw1 := Lib.hid (fun wz (hb : Below w8.heap.size w8 wz) => (by have h := hwx.out wz hb 1 (by have := hT0.out.2; simpa using this); rw [hz01.out.2] at h; exact h : Calls Tryz.prog 22 #[.int .u32 1, .pointer (some ⟨P, 0, none⟩)] wz fun e w' => e = .returned (.int .u64 18446744073709551615) ∧ Below wz.heap.size wz w'))
          have HI := Lib.hid r1
          have HG := Lib.hid r2
          have HO := Lib.hid r3
          have gne := bnef (a := (N.outs.length : Int)) (b := N.outs.length) rfl
          clear r1 r2 r3
          go_upto_region 23 with (first
            | (go_at_call 19; (with_reducible refine hcy.out.mono ?_); rintro e w9 ⟨rfl, rfl⟩; clear hcy)
            | (go_at_call 22; (with_reducible refine hw0.out.mono ?_); rintro e w9 ⟨rfl, hb9⟩; have hbk := Lib.hid (nextw hbk.out hb9); have hw2 := Lib.hid (hw1.out _ hbk.out); clear hw0)
            | (go_at_call 22; (with_reducible refine hw2.out.mono ?_); rintro e w10 ⟨rfl, hb10⟩; have hbk := Lib.hid (nextw hbk.out hb10); clear hw1 hw2))
          have hm2 : N.g.nodes.length ≤ 200000 := by omega
          have hpos := hG.out.wf.pos
          go_upto_block 4 with fail
          go_cut [] (fun wx => Hid (Below w8.heap.size w8 wx))
          case first =>
            as_aux_lemma =>
            go_wp2_with fail
            go_loopw [20, 21, 22, 23, 24, 25] (fun s20 _ _ _ _ _ wr => ∃ k : Nat, 1 ≤ k ∧ k ≤ N.g.nodes.length ∧ s20 = .int .i64 k ∧ Hid (Below w8.heap.size w8 wr)) (fun s20 _ _ _ _ _ _ => N.g.nodes.length - (intOf s20).toNat)
            case atStart => exact ⟨1, Nat.le_refl _, by omega, rfl, hbk⟩
            case round =>
              as_aux_lemma =>
              clear hbk
              obtain ⟨k, hk1, hk, rfl, hbk⟩ := hrel
              obtain ⟨wk, rfl⟩ : ∃ wk : World, wk = wr := ⟨_, rfl⟩
              have hnd := Lib.hid ((hU8.out.step hbk.out).at_.nodes hG.out.wf.pos)
              have n0 := stepc hbk.out hBl n0
              by_cases hltk : k < N.g.nodes.length
              · have hof := Lib.hid (of_even k (by omega))
                have hTx := Lib.hid (at_node (G := N.g) hm2 hltk).1
                have hTn := Lib.hid (at_node (G := N.g) hm2 hltk).2
                have hnn : nodeAt N.g k = N.g.nodes[k] := by simp [nodeAt, List.getD, hltk]
                have hgt := Lib.hid (fun wz (hb : Below w8.heap.size w8 wz) => (by have h := Gate_any (hU8.out.step hb).at_.is.g hG.out.wf hm2 hltk; rw [hnn, show q.g.b = Cg from (hU8.out.step hb).at_.gb] at h; exact h : Calls Tryz.prog 26 #[.pointer (some ⟨Cg, 0, none⟩), .int .i64 k] wz fun e w' => e = .returned (.tuple #[.int .u32 N.g.nodes[k].a, .int .u32 N.g.nodes[k].b, .bool N.g.nodes[k].gate]) ∧ Below wz.heap.size wz w'))
                have hnt := Lib.hid (fun wz => (by have h := not_any (2 * (k : Int)) hTx.out.1 wz; rw [show notV (2 * (k : Int)) = 2 * (k : Int) + 1 by unfold notV; simp] at h; exact h : Calls Tryz.prog 27 #[.int .u32 (2 * (k : Int))] wz fun e w' => e = .returned (.int .u32 (2 * (k : Int) + 1)) ∧ wz = w'))
                have hgw := Lib.hid (fun h => hG.out.wf.gates k _ (List.getElem?_eq_getElem hltk) h)
                have hga := Lib.hid (fun h => at_gate hG.out hC.out i hltk h)
                have hwd := Lib.hid (wordV_bd (at_cyc hG.out hC.out i).words (2 * (k : Int)))
                have gq2 := bnef (show wordV (2 * (k : Int) + 1) (wordsAt N C i) = bits .xor .u64 IntKind.u64.max (wordV (2 * (k : Int)) (wordsAt N C i)) from (at_neg _ k).trans (Num.not64 hwd.out.1 hwd.out.2).symm)
                have hsg : IntKind.u64.signed = false := rfl
                -- @slow
                generalize N.g.nodes[k] = nd at *
                obtain ⟨gt, ga, gb⟩ := nd
                simp only [] at hgt hgw hga
                cases gt
                · clear hgw hga
                  go_wp2_with (first
                    | (go_at_call 24; (with_reducible refine hnd.out.mono ?_); rintro e w9 ⟨rfl, rfl⟩)
                    | (go_at_call 25; (with_reducible refine (hof.out _).mono ?_); rintro e w9 ⟨rfl, rfl⟩)
                    | (go_at_call 26; (with_reducible refine (hgt.out _ hbk.out).mono ?_); rintro e w9 ⟨rfl, hb9⟩; have hbk := Lib.hid (nextw hbk.out hb9); clear hgt)
                    | (go_at_call 27; (with_reducible refine (hnt.out _).mono ?_); rintro e w9 ⟨rfl, rfl⟩)
                    | (go_at_call 22; (with_reducible refine (hwx.out _ hbk.out _ hTn.out).mono ?_); rintro e w11 ⟨rfl, hb11⟩; have hbk := Lib.hid (nextw hbk.out hb11); clear hTn)
                    | (go_at_call 22; (with_reducible refine (hwx.out _ hbk.out _ hTx.out).mono ?_); rintro e w11 ⟨rfl, hb11⟩; have hbk := Lib.hid (nextw hbk.out hb11)))
                  case roundEnd => exact ⟨⟨k + 1, by omega, by omega, by go_num, hbk⟩, by simp [intOf]; omega⟩
                · obtain ⟨la1, lb1, hba, hai⟩ := hgw.out rfl
                  have gq1 := bnef (hga.out rfl)
                  have hTa : Hid (There N.g ga) := Lib.hid ⟨la1, by have := la1.1; have := lb1.1; omega⟩
                  have hTb : Hid (There N.g gb) := Lib.hid ⟨lb1, by have := la1.1; have := lb1.1; omega⟩
                  clear hgw hga
                  go_wp2_with (first
                    | (go_at_call 24; (with_reducible refine hnd.out.mono ?_); rintro e w9 ⟨rfl, rfl⟩)
                    | (go_at_call 25; (with_reducible refine (hof.out _).mono ?_); rintro e w9 ⟨rfl, rfl⟩)
                    | (go_at_call 26; (with_reducible refine (hgt.out _ hbk.out).mono ?_); rintro e w9 ⟨rfl, hb9⟩; have hbk := Lib.hid (nextw hbk.out hb9); clear hgt)
                    | (go_at_call 27; (with_reducible refine (hnt.out _).mono ?_); rintro e w9 ⟨rfl, rfl⟩)
                    | (go_at_call 22; (with_reducible refine (hwx.out _ hbk.out _ hTn.out).mono ?_); rintro e w11 ⟨rfl, hb11⟩; have hbk := Lib.hid (nextw hbk.out hb11); clear hTn)
                    | (go_at_call 22; (with_reducible refine (hwx.out _ hbk.out _ hTx.out).mono ?_); rintro e w11 ⟨rfl, hb11⟩; have hbk := Lib.hid (nextw hbk.out hb11))
                    | (go_at_call 22; (with_reducible refine (hwx.out _ hbk.out _ hTa.out).mono ?_); rintro e w11 ⟨rfl, hb11⟩; have hbk := Lib.hid (nextw hbk.out hb11))
                    | (go_at_call 22; (with_reducible refine (hwx.out _ hbk.out _ hTb.out).mono ?_); rintro e w11 ⟨rfl, hb11⟩; have hbk := Lib.hid (nextw hbk.out hb11)))
                  case roundEnd => exact ⟨⟨k + 1, by omega, by omega, by go_num, hbk⟩, by simp [intOf]; omega⟩
                -- @end
              · obtain rfl : k = N.g.nodes.length := by omega
                go_wp2_with (go_at_call 24; (with_reducible refine hnd.out.mono ?_); rintro e w9 ⟨rfl, rfl⟩)
                go_meet
                exact hbk
          case rest =>
            as_aux_lemma =>
            have hbk := hcut
            obtain ⟨wk, rfl⟩ : ∃ wk : World, wk = wc := ⟨_, rfl⟩
            obtain ⟨bs9, hG9⟩ : ∃ bs, GR w8 bs u7 (piecesG N (C i)) := ⟨_, by have h := hG8.out; simpa using h⟩
            obtain ⟨a7, c7, rfl⟩ := hG9.slice
            rw [piecesG_len] at hG9 ⊢
            have hG9 := Lib.hid hG9
            have n2x := stepc hbk.out hBl n2c
            clear hG8
            go_upto_block 6 with fail
            go_cut [] (fun wx => Hid (Below w8.heap.size w8 wx))
            case first =>
              as_aux_lemma =>
              go_wp2_with fail
              clear n2x
              go_loopw [26, 27, 28, 29, 204] (fun _ _ _ _ s wx => ∃ k : Nat, k ≤ N.ins.length ∧ s = .int .i64 k ∧ Hid (Below w8.heap.size w8 wx)) (fun _ _ _ _ s _ => N.ins.length - (intOf s).toNat)
              case atStart => exact ⟨0, Nat.zero_le _, rfl, hbk⟩
              case round =>
                as_aux_lemma =>
                clear hbk
                obtain ⟨k, hk, rfl, hbk⟩ := hrel
                obtain ⟨wk2, rfl⟩ : ∃ wk2 : World, wk2 = wr := ⟨_, rfl⟩
                by_cases hltk : k < N.ins.length
                · -- @slow
                  obtain ⟨g2, la2, lc2, hia, hgl, b0, b1, hlr⟩ := HI.out.at hltk
                  subst hia
                  have d0 := stepc hbk.out hgl b0
                  have d1 := stepc hbk.out hgl b1
                  have hTh := Lib.hid (fun j hj => in_lit hG.out hm2 hltk (j := j) hj)
                  have hai := Lib.hid (fun j hj => at_in hG.out hC.out i hltk (j := j) hj)
                  obtain ⟨g7, ha7, hg7l, ra7, rc7, s0, hW7⟩ := hG9.out.at (i := k) (by rw [piecesG_len]; exact hltk)
                  rw [piecesG_at N (C i) hltk] at s0 hW7
                  have hpl := pieceG_len N (C i) hltk
                  rw [hpl] at s0 hW7
                  subst ha7
                  have hkc : (k : Int) < N.ins.length := by omega
                  have hk0 : (0 : Int) ≤ k := by omega
                  have hlw := hSm.out.ins
                  have hbw := (hG.out.ins.wide _ (List.getElem_mem hltk)).2
                  clear b0 b1
                  generalize N.ins[k] = bus at *
                  generalize pieceG N (C i) k = pc at *
                  obtain ⟨bn, bl⟩ := bus
                  simp only [] at d0 d1 hlr hTh hai s0 hW7 hpl hbw
                  have hlr := Lib.hid hlr
                  have hW7 := Lib.hid hW7
                  have hbox : ∀ x, x = wk2.alloc (.cells #[.string bn, .slice la2 bl.length lc2] 81) → Below wk2.heap.size wk2 x ∧ x.cell? ⟨wk2.heap.size, 1, none⟩ = some (.slice la2 bl.length lc2) := by
                    rintro x rfl
                    exact ⟨(Below.refl _ _).alloc (Nat.le_refl _) _, by simp [go_sem]⟩
                  go_upto_region 33 with fail
                  obtain ⟨hbx, e1⟩ := hbox _ rfl
                  have hbk3 := Lib.hid (nextw hbk.out hbx)
                  clear hbox d0 d1 hbx
                  generalize wk2.alloc (.cells #[.string bn, .slice la2 bl.length lc2] 81) = wb at *
                  generalize wk2.heap.size = bb at *
                  go_wp2_with fail
                  clear e1
                  go_loopw [28, 29, 212] (fun _ _ s wx => ∃ j : Nat, j ≤ bl.length ∧ s = .int .i64 j ∧ Hid (Below w8.heap.size w8 wx)) (fun _ _ s _ => bl.length - (intOf s).toNat)
                  case atStart => exact ⟨0, Nat.zero_le _, rfl, hbk3⟩
                  case round =>
                    as_aux_lemma =>
                    clear hbk3
                    obtain ⟨j, hj, rfl, hbj⟩ := hrel
                    obtain ⟨wj, rfl⟩ : ∃ wj : World, wj = wr := ⟨_, rfl⟩
                    by_cases hltj : j < bl.length
                    · obtain ⟨lb, lo, hla, hlb, hlc⟩ := (hlr.out.below hbj.out).cell hltj
                      subst hla
                      obtain ⟨rb, ro, hra, hrb, hrc⟩ := (hW7.out.below hbj.out).cell hltj
                      subst hra
                      have s0j := stepc hbj.out hg7l s0
                      have hcl := hwx.out
                      have hv := hai.out j hltj
                      have hth := hTh.out j hltj
                      have hjl : (j : Int) < bl.length := by omega
                      generalize bl[j] = x at *
                      have hcl2 := Lib.hid (fun q => (by have h := hcl (ext wj q) (nextw hbj.out (ext_below wj q)) x hth; rw [hv] at h; exact h : Calls Tryz.prog 22 #[.int .u32 x, .pointer (some ⟨P, 0, none⟩)] (ext wj q) fun e w' => e = .returned (.int .u64 (pc.getD j 0)) ∧ Below (ext wj q).heap.size (ext wj q) w'))
                      have hgnv := bnef (a := pc.getD j 0) (b := pc.getD j 0) rfl
                      generalize pc.getD j 0 = v at *
                      have x0 : ∀ q, (ext wj q).cell? ⟨g7, k, none⟩ = some (.slice (some ⟨rb, ro, none⟩) bl.length rc7) := fun q => stepc (ext_below wj q) (World.block_lt_of_cell? wj _ s0j) s0j
                      have x1 : ∀ q, (ext wj q).cell? ⟨rb, ro + j, none⟩ = some (.int .u64 v) := fun q => stepc (ext_below wj q) (World.block_lt_of_cell? wj _ hrc) hrc
                      have hj0 : (0 : Int) ≤ j := by omega
                      clear hcl hv hth s0j hrc
                      go_upto_region 36 with fail
                      (refine wp_region_ext (by kernel_rfl) (by kernel_rfl) ?_; (repeat (go_big_quiet_step ((go_at_call 22; exact Calls.ext_of (hcl2.out _))))); refine wpQuiet_nil ?_; intro w2 hw'; have hb2 := below_of_ext hw'; clear hw')
                      go_wp2
                      exact ⟨⟨j + 1, by omega, by go_num, Lib.hid (nextw hbj.out hb2)⟩, by simp [intOf]; omega⟩
                    · obtain rfl : j = bl.length := by omega
                      go_wp2
                      exact ⟨⟨k + 1, by omega, by go_num, hbj⟩, by simp [intOf]; omega⟩
                  -- @end
                · obtain rfl : k = N.ins.length := by omega
                  go_wp2_with fail
                  go_meet
                  exact hbk
            case rest =>
              as_aux_lemma =>
              clear hG9 HI n2x n2c hbk
              have hbk := hcut
              obtain ⟨wk5, rfl⟩ : ∃ wk5 : World, wk5 = wc := ⟨_, rfl⟩
              have n4x := stepc hbk.out hBl n4
              go_upto_block 10 with fail
              go_cut [] (fun wx => Hid (Below w8.heap.size w8 wx))
              case first =>
                as_aux_lemma =>
                go_wp2_with fail
                clear n4x
                go_loopw [30, 31, 32, 33, 235] (fun _ _ _ _ s wx => ∃ k : Nat, k ≤ N.outs.length ∧ s = .int .i64 k ∧ Hid (Below w8.heap.size w8 wx)) (fun _ _ _ _ s _ => N.outs.length - (intOf s).toNat)
                case atStart => exact ⟨0, Nat.zero_le _, rfl, hbk⟩
                case round =>
                  as_aux_lemma =>
                  clear hbk
                  obtain ⟨k, hk, rfl, hbk⟩ := hrel
                  obtain ⟨wk3, rfl⟩ : ∃ wk3 : World, wk3 = wr := ⟨_, rfl⟩
                  by_cases hltk : k < N.outs.length
                  · -- @slow
                    obtain ⟨g2, la2, lc2, hia, hgl, b0, b1, hlr⟩ := HO.out.at hltk
                    subst hia
                    have d0 := stepc hbk.out hgl b0
                    have d1 := stepc hbk.out hgl b1
                    have hTh := Lib.hid (fun j hj => out_lit hG.out hltk (j := j) hj)
                    have hai := Lib.hid (fun j hj => at_out N C i hltk (j := j) hj)
                    obtain ⟨ra7, rc7, s0, hW7, hg8l⟩ := hO8.out.at hltk
                    have hkc : (k : Int) < N.outs.length := by omega
                    have hk0 : (0 : Int) ≤ k := by omega
                    have hlw := hSm.out.outs
                    have hbw := (hG.out.outs.wide _ (List.getElem_mem hltk)).2
                    clear b0 b1
                    generalize (outAt N C i).getD k [] = pc at *
                    generalize N.outs[k] = bus at *
                    obtain ⟨bn, bl⟩ := bus
                    simp only [] at d0 d1 hlr hTh hai hbw
                    have hlr := Lib.hid hlr
                    have hW7 := Lib.hid hW7
                    have hbox : ∀ x, x = wk3.alloc (.cells #[.string bn, .slice la2 bl.length lc2] 81) → Below wk3.heap.size wk3 x ∧ x.cell? ⟨wk3.heap.size, 1, none⟩ = some (.slice la2 bl.length lc2) := by
                      rintro x rfl
                      exact ⟨(Below.refl _ _).alloc (Nat.le_refl _) _, by simp [go_sem]⟩
                    go_upto_region 43 with fail
                    obtain ⟨hbx, e1⟩ := hbox _ rfl
                    have hbk3 := Lib.hid (nextw hbk.out hbx)
                    clear hbox d0 d1 hbx
                    generalize wk3.alloc (.cells #[.string bn, .slice la2 bl.length lc2] 81) = wb at *
                    generalize wk3.heap.size = bb at *
                    go_wp2_with fail
                    clear e1
                    go_loopw [32, 33, 243] (fun _ _ s wx => ∃ j : Nat, j ≤ bl.length ∧ s = .int .i64 j ∧ Hid (Below w8.heap.size w8 wx)) (fun _ _ s _ => bl.length - (intOf s).toNat)
                    case atStart => exact ⟨0, Nat.zero_le _, rfl, hbk3⟩
                    case round =>
                      as_aux_lemma =>
                      clear hbk3
                      obtain ⟨j, hj, rfl, hbj⟩ := hrel
                      obtain ⟨wj, rfl⟩ : ∃ wj : World, wj = wr := ⟨_, rfl⟩
                      by_cases hltj : j < bl.length
                      · obtain ⟨hpl, hv⟩ := hai.out j hltj
                        obtain ⟨lb, lo, hla, hlb, hlc⟩ := (hlr.out.below hbj.out).cell hltj
                        subst hla
                        obtain ⟨rb, ro, hra, hrb, hrc⟩ := (hW7.out.below hbj.out).cell (j := j) (by omega)
                        subst hra
                        have s0j := stepc hbj.out hg8l s0
                        rw [hpl] at s0j
                        have hcl := hwx.out
                        have hth := hTh.out j hltj
                        have hjl : (j : Int) < bl.length := by omega
                        have hjd : decide ((bl.length : Int) ≤ (j : Int)) = false := by simp; omega
                        have hjdN : decide (bl.length ≤ j) = false := by simp; omega
                        generalize bl[j] = x at *
                        have hcl2 := Lib.hid (fun q => (by have h := hcl (ext wj q) (nextw hbj.out (ext_below wj q)) x hth; rw [← hv] at h; exact h : Calls Tryz.prog 22 #[.int .u32 x, .pointer (some ⟨P, 0, none⟩)] (ext wj q) fun e w' => e = .returned (.int .u64 (pc.getD j 0)) ∧ Below (ext wj q).heap.size (ext wj q) w'))
                        have hgnv := bnef (a := pc.getD j 0) (b := pc.getD j 0) rfl
                        generalize pc.getD j 0 = v at *
                        have x0 : ∀ q, (ext wj q).cell? ⟨g8, k, none⟩ = some (.slice (some ⟨rb, ro, none⟩) bl.length rc7) := fun q => stepc (ext_below wj q) (World.block_lt_of_cell? wj _ s0j) s0j
                        have x1 : ∀ q, (ext wj q).cell? ⟨rb, ro + j, none⟩ = some (.int .u64 v) := fun q => stepc (ext_below wj q) (World.block_lt_of_cell? wj _ hrc) hrc
                        have hj0 : (0 : Int) ≤ j := by omega
                        clear hcl hv hth s0j hrc hpl
                        go_upto_region 46 with fail
                        (refine wp_region_ext (by kernel_rfl) (by kernel_rfl) ?_; (repeat (go_big_quiet_step ((go_at_call 22; exact Calls.ext_of (hcl2.out _))))); refine wpQuiet_nil ?_; intro w2 hw'; have hb2 := below_of_ext hw'; clear hw')
                        go_wp2
                        exact ⟨⟨j + 1, by omega, by go_num, Lib.hid (nextw hbj.out hb2)⟩, by simp [intOf]; omega⟩
                      · obtain rfl : j = bl.length := by omega
                        go_wp2
                        exact ⟨⟨k + 1, by omega, by go_num, hbj⟩, by simp [intOf]; omega⟩
                    -- @end
                  · obtain rfl : k = N.outs.length := by omega
                    go_wp2_with fail
                    go_meet
                    exact hbk
              case rest =>
                as_aux_lemma =>
                clear HO hO8 n4x n4 hbk
                have hbk := hcut
                obtain ⟨wk6, rfl⟩ : ∃ wk6 : World, wk6 = wc := ⟨_, rfl⟩
                have hrg2 := Lib.hid ((hU8.out.step hbk.out).regs hC.out)
                have hpk := (hU8.out.step hbk.out).pc
                -- THE REGISTERS
                go_upto_region 51 with (go_at_call 18; (with_reducible refine hrg2.out.mono ?_); rintro e w12 ⟨ra12, rc12, rfl, hW12, -, hb12⟩; have hbk12 := Lib.hid (nextw hbk.out hb12); have hW12 := Lib.hid hW12; clear hb12 hrg2)
                have n3x := stepc hbk12.out hBl n3
                clear hpk hbk
                go_wp2_with fail
                clear n3x
                go_loopw [35, 36, 277] (fun _ _ s wx => ∃ k : Nat, k ≤ N.regs.length ∧ s = .int .i64 k ∧ Hid (Below w12.heap.size w12 wx)) (fun _ _ s _ => N.regs.length - (intOf s).toNat)
                case atStart => exact ⟨0, Nat.zero_le _, rfl, Lib.hid (Below.refl _ _)⟩
                case round =>
                  as_aux_lemma =>
                  obtain ⟨k, hk, rfl, hbk⟩ := hrel
                  obtain ⟨wk4, rfl⟩ : ∃ wk4 : World, wk4 = wr := ⟨_, rfl⟩
                  have hbk8 := Lib.hid (nextw hbk12.out hbk.out)
                  by_cases hltk : k < N.regs.length
                  · obtain ⟨g2, hra, hgl, b0, b1, b2, b3⟩ := HG.out.at hltk
                    subst hra
                    have d0 := stepc hbk8.out hgl b0
                    have d1 := stepc hbk8.out hgl b1
                    have d2 := stepc hbk8.out hgl b2
                    have d3 := stepc hbk8.out hgl b3
                    have hTr := Lib.hid (reg_lit hG.out hm2 hltk)
                    have htst := Lib.hid (fun was now wd we h1 h2 h3 h4 => at_test hG.out hC.out i hltk was now wd we h1 h2 h3 h4)
                    obtain ⟨rb, ro, hr1, hrb, hrc⟩ := (W8.out.below hbk8.out).cell hltk
                    subst hr1
                    obtain ⟨sb, so, hr2, hsb, hsc⟩ := (hW12.out.below hbk.out).cell hltk
                    subst hr2
                    have hkc : (k : Int) < N.regs.length := by omega
                    have hk0 : (0 : Int) ≤ k := by omega
                    have hnr := hSm.out.regs
                    clear b0 b1 b2 b3
                    generalize N.regs[k] = r at *
                    obtain ⟨rq, rd, re, ri⟩ := r
                    simp only [] at d0 d1 d2 d3 hTr htst
                    have hbox : ∀ x, x = wk4.alloc (.cells #[.int .u32 rq, .int .u32 rd, .int .u32 re, .bool ri] 71) → Below wk4.heap.size wk4 x ∧ x.cell? ⟨wk4.heap.size, 0, none⟩ = some (.int .u32 rq) ∧ x.cell? ⟨wk4.heap.size, 1, none⟩ = some (.int .u32 rd) ∧ x.cell? ⟨wk4.heap.size, 2, none⟩ = some (.int .u32 re) := by
                      rintro x rfl
                      exact ⟨(Below.refl _ _).alloc (Nat.le_refl _) _, by simp [go_sem], by simp [go_sem], by simp [go_sem]⟩
                    go_upto_region 54 with fail
                    obtain ⟨hbx, e0, e1, e2⟩ := hbox _ rfl
                    have hrc2 := stepc hbx hrb hrc
                    have hsc2 := stepc hbx hsb hsc
                    have hbk9 := Lib.hid (nextw hbk8.out hbx)
                    have hbk10 := Lib.hid (nextw hbk.out hbx)
                    clear hbox d0 d1 d2 d3 hbx hrc hsc
                    generalize wk4.alloc (.cells #[.int .u32 rq, .int .u32 rd, .int .u32 re, .bool ri] 71) = wb at *
                    generalize wk4.heap.size = bb at *
                    -- @slow
                    obtain ⟨t1, t2, t3⟩ := htst.out _ _ _ _ rfl rfl rfl rfl
                    have cq := Lib.hid (fun q => (by have h := hwx.out (ext wb q) (nextw hbk9.out (ext_below wb q)) rq hTr.out.1; rw [t1] at h; exact h : Calls Tryz.prog 22 #[.int .u32 rq, .pointer (some ⟨P, 0, none⟩)] (ext wb q) fun e w' => e = .returned (.int .u64 ((hasAt N C i).getD k 0)) ∧ Below (ext wb q).heap.size (ext wb q) w'))
                    have cd := Lib.hid (fun q => hwx.out (ext wb q) (nextw hbk9.out (ext_below wb q)) rd hTr.out.2.1)
                    have ce := Lib.hid (fun q => hwx.out (ext wb q) (nextw hbk9.out (ext_below wb q)) re hTr.out.2.2)
                    have f1 := bnef (a := (hasAt N C i).getD k 0) (b := (hasAt N C i).getD k 0) rfl
                    have f2 := bnef t2
                    have f3 := bnef t3
                    clear t1 t2 t3 htst hTr
                    generalize (hasAt N C i).getD k 0 = was at *
                    generalize (hasAt N C (i + 1)).getD k 0 = now at *
                    generalize wordV rd (wordsAt N C i) = wd at *
                    generalize wordV re (wordsAt N C i) = we at *
                    have x0 : ∀ q, (ext wb q).cell? ⟨bb, 0, none⟩ = some (.int .u32 rq) := fun q => stepc (ext_below wb q) (World.block_lt_of_cell? wb _ e0) e0
                    have x1 : ∀ q, (ext wb q).cell? ⟨bb, 1, none⟩ = some (.int .u32 rd) := fun q => stepc (ext_below wb q) (World.block_lt_of_cell? wb _ e1) e1
                    have x2 : ∀ q, (ext wb q).cell? ⟨bb, 2, none⟩ = some (.int .u32 re) := fun q => stepc (ext_below wb q) (World.block_lt_of_cell? wb _ e2) e2
                    have x3 : ∀ q, (ext wb q).cell? ⟨rb, ro + k, none⟩ = some (.int .u64 was) := fun q => stepc (ext_below wb q) (World.block_lt_of_cell? wb _ hrc2) hrc2
                    have x4 : ∀ q, (ext wb q).cell? ⟨sb, so + k, none⟩ = some (.int .u64 now) := fun q => stepc (ext_below wb q) (World.block_lt_of_cell? wb _ hsc2) hsc2
                    clear e0 e1 e2 hrc2 hsc2
                    (refine wp_region_ext (by kernel_rfl) (by kernel_rfl) ?_; (repeat (go_big_quiet_step ((go_at_call 22; first | (with_reducible exact Calls.ext_of (cq.out _)) | (with_reducible exact Calls.ext_of (cd.out _)) | (with_reducible exact Calls.ext_of (ce.out _)))))); refine wpQuiet_nil ?_; intro w2 hw'; have hb2 := below_of_ext hw'; clear hw')
                    go_wp2
                    exact ⟨⟨k + 1, by omega, by go_num, Lib.hid (nextw hbk10.out hb2)⟩, by simp [intOf]; omega⟩
                    -- @end
                  · obtain rfl : k = N.regs.length := by omega
                    have hUf := Lib.hid (hU8.out.step hbk8.out)
                    go_wp2
                    exact ⟨⟨i + 1, wordsAt N C i, by omega, by go_num, hUf⟩, by simp [intOf]; omega⟩
        · obtain rfl : i = min n2 20 := by omega
          have hbl := Lib.hid (nextw hb0.out hUn.out.at_.below)
          by_cases h6 : n2 ≤ 20
          · have hmn : min n2 20 = n2 := by omega
            rw [hmn]
            go_wp2_with (go_at_call 21; (with_reducible refine (htl.out _).mono ?_); rintro e w30 ⟨rfl, hb30⟩)
            go_ret
            exact ⟨rfl, nextw hbl.out hb30⟩
          · have hmn : min n2 20 = 20 := by omega
            have hn4 : 20 < n2 := by omega
            rw [hmn]
            go_wp2_with (go_at_call 21; (with_reducible refine (htl.out _).mono ?_); rintro e w30 ⟨rfl, hb30⟩)
            go_ret
            exact ⟨rfl, nextw hbl.out hb30⟩
end Go.Proofs.YtafoohdndlhbnaaGreat
end
