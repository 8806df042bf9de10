/-
  Build: a graph of steps, and the document's.
-/
import Derived.Test.YtmljpbbnllfgbaaRfC
import Derived.Deep.CutBlock
import Derived.Deep.DeepCutAuto
namespace Go.Proofs.Ytmljpbbnllfgbaa
open Go.RowKit Go.Maps Num
set_option maxRecDepth 100000

def brV (L : Nat) (x : Int) : Int := x % (2 * (L : Int))
theorem brV_there {G : Gr} (hW : Wf G) (hm : G.nodes.length ≤ 200000) (x : Int) : There G (brV G.nodes.length x) := by
  have h0 := hW.pos
  have h1 := Int.emod_nonneg x (b := 2 * (G.nodes.length : Int)) (by omega)
  have h2 := Int.emod_lt_of_pos x (b := 2 * (G.nodes.length : Int)) (by omega)
  unfold brV
  exact ⟨⟨h1, by omega⟩, by omega⟩
/-- Steps, as a call reads them. -/
def Steps (w : World) (a : Option Addr) (n : Nat) (S : Nat → Int × Int × Int) : Prop :=
  (∀ i, IsLit (S i).2.1 ∧ IsLit (S i).2.2) ∧ n ≤ 9223372036854775807 ∧ (n = 0 ∨ ∃ b off, a = some ⟨b, off, none⟩ ∧ b < w.heap.size ∧ ∀ i, i < n → w.cell? ⟨b, off + i * 3, none⟩ = some (.int .i64 (S i).1) ∧ w.cell? ⟨b, off + i * 3 + 1, none⟩ = some (.int .u32 (S i).2.1) ∧ w.cell? ⟨b, off + i * 3 + 2, none⟩ = some (.int .u32 (S i).2.2))

def stepG (G : Gr) (s : Int × Int × Int) : Gr :=
  let L : Int := 2 * (G.nodes.length : Int)
  if s.1 = 0 then inputG G else if s.1 = 3 then (orG G (s.2.1 % L) (s.2.2 % L)).1 else if s.1 = 4 then (xorG G (s.2.1 % L) (s.2.2 % L)).1 else if s.1 = 5 then (gateG G (s.2.1 % L) (s.2.2 % L)).1 else (andG G (s.2.1 % L) (s.2.2 % L)).1
def buildG (F H : Bool) (S : Nat → Int × Int × Int) : Nat → Gr
  | 0 => newG F H
  | i + 1 => stepG (buildG F H S i) (S i)

theorem stepG_good {G : Gr} (hW : Wf G) (hl : G.nodes.length ≤ 90000) (s : Int × Int × Int) : Wf (stepG G s) ∧ Le G (stepG G s) ∧ (stepG G s).nodes.length ≤ G.nodes.length + 3 := by
  have ha := brV_there hW (by omega) s.2.1
  have hb := brV_there hW (by omega) s.2.2
  unfold brV at ha hb
  unfold stepG
  simp only
  split
  · exact ⟨Wf_inputG hW, inputG_le G, by rw [inputG_len]; omega⟩
  · split
    · have g := orG_good hW ha hb (by omega)
      exact ⟨g.wf, g.le, by have := g.len; omega⟩
    · split
      · have g := xorG_good hW ha hb (by omega)
        exact ⟨g.wf, g.le, g.len⟩
      · split
        · have g := gateG_good hW ha hb (by omega)
          exact ⟨g.wf, g.le, by have := g.len; omega⟩
        · have g := andG_good hW ha hb (by omega)
          exact ⟨g.wf, g.le, by have := g.len; omega⟩
theorem buildG_good (F H : Bool) (S : Nat → Int × Int × Int) : ∀ i, i ≤ 60 → Wf (buildG F H S i) ∧ Le (newG F H) (buildG F H S i) ∧ (buildG F H S i).nodes.length ≤ 1 + 3 * i := by
  intro i
  induction i with
  | zero => intro _; exact ⟨Wf_new F H, Le.refl _, by simp [buildG, newG]⟩
  | succ i ih =>
    intro hi
    obtain ⟨h1, h2, h3⟩ := ih (by omega)
    obtain ⟨g1, g2, g3⟩ := stepG_good h1 (by omega) (S i)
    exact ⟨g1, h2.trans g2, by show (stepG (buildG F H S i) (S i)).nodes.length ≤ _; omega⟩

theorem AtG.twoS {f : FuncId} {T : Gr → Int → Int → Gr × Int} {z : Int} {k : Nat} (hF : ManyCall f T z) (hT : OpOk T k) (hk : k ≤ 3) {w0 w : World} {B : Nat} {p : Pl} {G : Gr} (h : AtG w0 B w p G) {x y : Int} (hx : There G x) (hy : There G y) (h9 : G.nodes.length ≤ 90000) :
    Calls Try.prog f #[.pointer (some ⟨B, 0, none⟩), .slice (some ⟨w.heap.size, 0, none⟩) 2 2] (w.alloc (.cells #[.int .u32 x, .int .u32 y] 40)) fun e w' => e = .returned (.tuple #[.int .u32 (T G x y).2, .int .i64 0]) ∧ ∃ p', AtG w0 B w' p' (T G x y).1 ∧ Step p w p' w' (T G x y).1 := by
  have hlt := fun k (hk : p.has k) => h.is.has_lt hk
  have hb := (Below.refl w.heap.size w).alloc (Nat.le_refl _) (.cells #[.int .u32 x, .int .u32 y] 40)
  have h1 := h.step hb
  have hl : AllThere G [x, y] := by intro u hu; simp at hu; rcases hu with rfl | rfl <;> assumption
  have g := hT G x y h.wf hx hy (by omega)
  have := hF _ p G _ 2 2 [x, y] h1.is h1.wf (row2 w x y _) (Nat.le_refl _) (by
    intro b hb hp
    have := hlt _ hp
    cases hb
    simp at this) hl (by omega)
  rw [h.b, show manyG T z G [x, y] = T G x y from rfl] at this
  exact this.mono fun e w' ⟨he, p', hS⟩ => ⟨he, p', h1.next hS g.wf (by have := g.len; omega), Step.front h.is hb hS⟩

theorem atg_new {F H : Bool} {w0 w w2 : World} {p : Pl} (hB : Below w0.heap.size w0 w) (hI : Is w2 p (newG F H)) (hb : Below w.heap.size w w2) (hout : ∀ k, p.has k → w.heap.size ≤ k) : AtG w0 p.b w2 p (newG F H) :=
  ⟨hI, Wf_new F H, rfl, fun k hk => Nat.le_trans hB.size (hout k hk), nextw hB hb, by simp [newG]⟩
theorem bld_step {w W w2 : World} {x y : Value} (I : Below w.heap.size w W ∧ w.heap.size < W.heap.size ∧ W.cell? ⟨w.heap.size, 0, none⟩ = some x ∧ W.cell? ⟨w.heap.size, 1, none⟩ = some y) (hb : Below W.heap.size W w2) :
    Below w.heap.size w w2 ∧ w.heap.size < w2.heap.size ∧ w2.cell? ⟨w.heap.size, 0, none⟩ = some x ∧ w2.cell? ⟨w.heap.size, 1, none⟩ = some y :=
  ⟨nextw I.1 hb, Nat.lt_of_lt_of_le I.2.1 hb.size, stepc hb I.2.1 I.2.2.1, stepc hb I.2.1 I.2.2.2⟩
theorem bld_box (w : World) (x y : Value) (T : Nat) : Below w.heap.size w (w.alloc (.cells #[x, y] T)).drew ∧ w.heap.size < (w.alloc (.cells #[x, y] T)).drew.heap.size ∧ (w.alloc (.cells #[x, y] T)).drew.cell? ⟨w.heap.size, 0, none⟩ = some x ∧ (w.alloc (.cells #[x, y] T)).drew.cell? ⟨w.heap.size, 1, none⟩ = some y :=
  ⟨((Below.refl _ _).alloc (Nat.le_refl _) _).drew, by simp, by simp [go_sem], by simp [go_sem]⟩

/-- What Build tells. -/
def Built (w : World) (G : Gr) (e : Ending) (w' : World) : Prop := ∃ B B2 p, e = .returned (.tuple #[.pointer (some ⟨B, 0, none⟩), .pointer (some ⟨B2, 0, none⟩)]) ∧ AtG w B w' p G

set_option maxHeartbeats 2000000 in
theorem Build_any (F H : Bool) {w : World} {a : Option Addr} {n cap : Nat} {S : Nat → Int × Int × Int} (hs : Steps w a n S) :
    Calls Try.prog 7 #[.agg #[.bool F, .bool H], .slice a n cap] w fun e w' => Built w (buildG F H S (min n 60)) e w' := by
  have hN := Lib.hid (fun w2 => new_any F H w2)
  have hR := Lib.hid (fun w2 (h : Below w.heap.size w w2) => rnew_any F H w w2 h)
  have HS := Lib.hid hs
  have hn9 := hs.2.1
  clear hs
  go_enter Try.func7, Try.ntmps7
  go_upto_region 1 with fail
  go_cut [6, 7] (fun s t wx => ∃ B B2 p g c, s = .pointer (some ⟨B, 0, none⟩) ∧ t = .pointer (some ⟨B2, 0, none⟩) ∧ Hid (AtG w B wx p (newG F H)) ∧ Hid (Rf w wx B2 g c F H (newG F H).nodes))
  case first =>
    -- @slow
    have I := bld_box w (.bool F) (.bool H) 23
    have ⟨_, hz, c0, c1⟩ := I
    go_region_with (first
      | (go_at_call 26; (with_reducible refine (hN.out _).mono ?_); rintro e w2 ⟨p, rfl, hI, hb, hout⟩; have hA := Lib.hid (atg_new I.1 hI hb hout); first | (have hRs := Lib.hid (hRf.out.step hb); clear hRf; have hRf := hRs; clear hRs) | skip; have I2 := bld_step I hb; clear I hb hI hout; have I := I2; clear I2; have ⟨_, hz, c0, c1⟩ := I)
      | (go_at_call 29; (with_reducible refine (hR.out _ I.1).mono ?_); rintro e w2 ⟨B2, g, c, rfl, hR2, hb⟩; have hRf := Lib.hid hR2; first | (have hAs := Lib.hid (hA.out.step hb); clear hA; have hA := hAs; clear hAs) | skip; have I2 := bld_step I hb; clear I hb hR2; have I := I2; clear I2; have ⟨_, hz, c0, c1⟩ := I))
    all_goals (go_wp2_with fail; go_meet; exact ⟨_, _, _, _, _, rfl, rfl, hA, hRf⟩)
    -- @end
  case rest =>
    obtain ⟨B, B2, p, g, c, rfl, rfl, hA, hRf⟩ := hcut
    clear hN hR
    have hgo := Lib.hid (buildG_good F H S)
    go_wp2
    go_loopw [8] (fun i wr => ∃ j : Nat, j ≤ min n 60 ∧ i = .int .i64 j ∧ ∃ p g c, Hid (AtG w B wr p (buildG F H S j)) ∧ Hid (Rf w wr B2 g c (buildG F H S j).fold (buildG F H S j).hash (buildG F H S j).nodes)) (fun i _ => min n 60 - (intOf i).toNat)
    case atStart => exact ⟨0, Nat.zero_le _, rfl, p, g, c, hA, hRf⟩
    case round =>
      clear hA hRf
      obtain ⟨j, hj, rfl, p2, g2, c2, hA2, hR2⟩ := hrel
      by_cases hlt : j < min n 60
      · have hjn : j < n := by omega
        have hj6 : j < 60 := by omega
        obtain ⟨b, off, rfl, hb, hcell⟩ := HS.out.2.2.resolve_left (by omega)
        obtain ⟨e0, e1, e2⟩ := hcell j hjn
        have e0 := stepc hA2.out.below hb e0
        have e1 := stepc hA2.out.below hb e1
        have e2 := stepc hA2.out.below hb e2
        have hsn : Hid (buildG F H S (j + 1) = stepG (buildG F H S j) (S j)) := Lib.hid rfl
        have hl := (hgo.out j (by omega)).2.2
        have hil := HS.out.1 j
        have hsz := hA2.out.below.size
        clear hcell
        generalize buildG F H S j = G at *
        generalize hSj : S j = sj at *
        obtain ⟨K, x, y⟩ := sj
        have hw1 : 0 < G.nodes.length := hA2.out.wf.pos
        obtain ⟨-, -, f2, -⟩ := hR2.out.cells
        have hB2 := hR2.out.blt
        have hx0 := hil.1.1
        have hx1 := hil.1.2
        have hy0 := hil.2.1
        have hy1 := hil.2.2
        have tx := Lib.hid (brV_there hA2.out.wf (by omega) x)
        have ty := Lib.hid (brV_there hA2.out.wf (by omega) y)
        have hm1 : x.tmod (2 * (G.nodes.length : Int)) = brV G.nodes.length x := Int.tmod_eq_emod_of_nonneg hx0
        have hm2 : y.tmod (2 * (G.nodes.length : Int)) = brV G.nodes.length y := Int.tmod_eq_emod_of_nonneg hy0
        have hwn : IntKind.u32.wrap (2 * (G.nodes.length : Int)) = 2 * (G.nodes.length : Int) := by rw [w32]; omega
        have hwi : IntKind.i64.wrap (2 * (G.nodes.length : Int)) = 2 * (G.nodes.length : Int) := IntWalk.i64_in _ (by omega)
        have hz : (2 * (G.nodes.length : Int) == 0) = false := beqf (by omega)
        go_wp2
        go_quiet (fail)
        have hb3 : Below wr.heap.size wr ((wr.alloc (.cells #[.int .i64 K, .int .u32 x, .int .u32 y] 69)).drewN nq) := nextw ((Below.refl _ _).alloc (Nat.le_refl _) _) (below_draws _ _)
        have hc3 : ((wr.alloc (.cells #[.int .i64 K, .int .u32 x, .int .u32 y] 69)).drewN nq).cell? ⟨wr.heap.size, 0, none⟩ = some (.int .i64 K) := stepc (below_draws _ nq) (by simp) (by simp [go_sem])
        have hA3 := Lib.hid (hA2.out.step hb3)
        have hR3 := Lib.hid (hR2.out.step hb3)
        generalize ((wr.alloc (.cells #[.int .i64 K, .int .u32 x, .int .u32 y] 69)).drewN nq) = w3 at *
        have hl2 : G.nodes.length ≤ 181 := by omega
        have hG1 := Lib.hid (hsn.out)
        clear hb3 hA2 hR2 e0 e1 e2 hx0 hx1 hy0 hy1 hm1 hm2 hwn hwi hz f2 hB2 hil hsz hb
        generalize hX : brV G.nodes.length x = X at *
        generalize hY : brV G.nodes.length y = Y at *
        have hXY := Lib.hid (And.intro hX hY)
        clear hX hY
        by_cases k0 : K = 0
        · subst k0
          have hst : Hid (stepG G (0, x, y) = inputG G) := Lib.hid rfl
          have hg1 := Lib.hid (hA3.out.inputS (by omega))
          have hg2 := Lib.hid (fun w4 (h4 : Rf w w4 B2 g2 c2 G.fold G.hash G.nodes) => rinput_any h4 (by omega))
          have hle := inputG_le G
          have hF : Hid ((stepG G (_, x, y)).fold = G.fold ∧ (stepG G (_, x, y)).hash = G.hash) := Lib.hid (by rw [hst.out]; exact ⟨hle.fold, hle.hash⟩)
          rw [← hst.out] at hg1
          clear hle
          go_wp2_with (first
            | (go_at_call 27; (with_reducible refine hg1.out.mono ?_); rintro e w5 ⟨rfl, p5, hA5, hS5⟩; have hA5 := Lib.hid hA5; have hR4 := Lib.hid (hR3.out.aside hA3.out.is hA3.out.out hS5.kept); have hg3 := Lib.hid (hg2.out _ hR4.out); clear hS5)
            | (go_at_call 30; (with_reducible refine hg3.out.mono ?_); rintro e w6 ⟨⟨v, rfl⟩, g5, c5, hR5, hK5⟩; have hA6 := Lib.hid (hA5.out.aside hK5 hR5.below); have hR6 := Lib.hid hR5; clear hK5 hR5))
          go_roundw
          case rel => exact ⟨j + 1, by omega, by go_num, p5, g5, c5, by rw [hG1.out]; exact hA6, by rw [hG1.out, hF.out.1, hF.out.2, hst.out]; exact hR6⟩
          case measure => simp [intOf]; omega
        · have n0 := beqf k0
          by_cases k3 : K = 3
          · subst k3
            have hst : Hid (stepG G (3, x, y) = (orG G X Y).1) := Lib.hid (by unfold stepG; simp only; rw [← hXY.out.1, ← hXY.out.2]; rfl)
            have hg1 := Lib.hid (AtG.twoS Or_any or_ok (by omega) hA3.out tx.out ty.out (by omega))
            have hg2 := Lib.hid (fun w4 (h4 : Rf w w4 B2 g2 c2 G.fold G.hash G.nodes) => rtwo_or w w4 B2 g2 c2 G X Y h4 hA3.out.wf (by omega) tx.out ty.out)
            have hle := (or_ok G X Y hA3.out.wf tx.out ty.out (by omega)).le
            have hF : Hid ((stepG G (_, x, y)).fold = G.fold ∧ (stepG G (_, x, y)).hash = G.hash) := Lib.hid (by rw [hst.out]; exact ⟨hle.fold, hle.hash⟩)
            rw [← hst.out] at hg1
            clear hle
            go_wp2_with (first
              | (go_at_call 31; (with_reducible refine hg1.out.mono ?_); rintro e w5 ⟨rfl, p5, hA5, hS5⟩; have hA5 := Lib.hid hA5; have hR4 := Lib.hid (hR3.out.aside hA3.out.is hA3.out.out hS5.kept); have hg3 := Lib.hid (hg2.out _ hR4.out); clear hS5)
              | (go_at_call 32; (with_reducible refine hg3.out.mono ?_); rintro e w6 ⟨rfl, g5, c5, hR5, hK5⟩; have hA6 := Lib.hid (hA5.out.aside hK5 hR5.below); have hR6 := Lib.hid hR5; clear hK5 hR5))
            go_roundw
            case rel => exact ⟨j + 1, by omega, by go_num, p5, g5, c5, by rw [hG1.out]; exact hA6, by rw [hG1.out, hF.out.1, hF.out.2, hst.out]; exact hR6⟩
            case measure => simp [intOf]; omega
          · have n3 := beqf k3
            by_cases k4 : K = 4
            · subst k4
              have hst : Hid (stepG G (4, x, y) = (xorG G X Y).1) := Lib.hid (by unfold stepG; simp only; rw [← hXY.out.1, ← hXY.out.2]; rfl)
              have hg1 := Lib.hid (AtG.twoS Xor_any xor_ok (by omega) hA3.out tx.out ty.out (by omega))
              have hg2 := Lib.hid (fun w4 (h4 : Rf w w4 B2 g2 c2 G.fold G.hash G.nodes) => rtwo_xor w w4 B2 g2 c2 G X Y h4 hA3.out.wf (by omega) tx.out ty.out)
              have hle := (xor_ok G X Y hA3.out.wf tx.out ty.out (by omega)).le
              have hF : Hid ((stepG G (_, x, y)).fold = G.fold ∧ (stepG G (_, x, y)).hash = G.hash) := Lib.hid (by rw [hst.out]; exact ⟨hle.fold, hle.hash⟩)
              rw [← hst.out] at hg1
              clear hle
              go_wp2_with (first
                | (go_at_call 33; (with_reducible refine hg1.out.mono ?_); rintro e w5 ⟨rfl, p5, hA5, hS5⟩; have hA5 := Lib.hid hA5; have hR4 := Lib.hid (hR3.out.aside hA3.out.is hA3.out.out hS5.kept); have hg3 := Lib.hid (hg2.out _ hR4.out); clear hS5)
                | (go_at_call 32; (with_reducible refine hg3.out.mono ?_); rintro e w6 ⟨rfl, g5, c5, hR5, hK5⟩; have hA6 := Lib.hid (hA5.out.aside hK5 hR5.below); have hR6 := Lib.hid hR5; clear hK5 hR5))
              go_roundw
              case rel => exact ⟨j + 1, by omega, by go_num, p5, g5, c5, by rw [hG1.out]; exact hA6, by rw [hG1.out, hF.out.1, hF.out.2, hst.out]; exact hR6⟩
              case measure => simp [intOf]; omega
            · have n4 := beqf k4
              by_cases k5 : K = 5
              · subst k5
                have hst : Hid (stepG G (5, x, y) = (gateG G X Y).1) := Lib.hid (by unfold stepG; simp only; rw [← hXY.out.1, ← hXY.out.2]; rfl)
                have hg1 := Lib.hid (hA3.out.raw (by omega) tx.out ty.out)
                have hg2 := Lib.hid (fun w4 (h4 : Rf w w4 B2 g2 c2 G.fold G.hash G.nodes) => rraw_any h4 (by omega) tx.out ty.out)
                have hle := (gateG_good hA3.out.wf tx.out ty.out (by omega)).le
                have hF : Hid ((stepG G (_, x, y)).fold = G.fold ∧ (stepG G (_, x, y)).hash = G.hash) := Lib.hid (by rw [hst.out]; exact ⟨hle.fold, hle.hash⟩)
                rw [← hst.out] at hg1
                clear hle
                go_wp2_with (first
                  | (go_at_call 34; (with_reducible refine hg1.out.mono ?_); rintro e w5 ⟨rfl, p5, hA5, hS5⟩; have hA5 := Lib.hid hA5; have hR4 := Lib.hid (hR3.out.aside hA3.out.is hA3.out.out hS5.kept); have hg3 := Lib.hid (hg2.out _ hR4.out); clear hS5)
                  | (go_at_call 35; (with_reducible refine hg3.out.mono ?_); rintro e w6 ⟨⟨v, rfl⟩, g5, c5, hR5, hK5⟩; have hA6 := Lib.hid (hA5.out.aside hK5 hR5.below); have hR6 := Lib.hid hR5; clear hK5 hR5))
                go_roundw
                case rel => exact ⟨j + 1, by omega, by go_num, p5, g5, c5, by rw [hG1.out]; exact hA6, by rw [hG1.out, hF.out.1, hF.out.2, hst.out]; exact hR6⟩
                case measure => simp [intOf]; omega
              · have n5 := beqf k5
                have hst : Hid (stepG G (K, x, y) = (andG G X Y).1) := Lib.hid (by unfold stepG; simp only; rw [if_neg k0, if_neg k3, if_neg k4, if_neg k5, ← hXY.out.1, ← hXY.out.2]; rfl)
                have hg1 := Lib.hid (AtG.twoS And_any and_ok (by omega) hA3.out tx.out ty.out (by omega))
                have hg2 := Lib.hid (fun w4 (h4 : Rf w w4 B2 g2 c2 G.fold G.hash G.nodes) => rtwo_and w w4 B2 g2 c2 G X Y h4 hA3.out.wf (by omega) tx.out ty.out)
                have hle := (and_ok G X Y hA3.out.wf tx.out ty.out (by omega)).le
                have hF : Hid ((stepG G (_, x, y)).fold = G.fold ∧ (stepG G (_, x, y)).hash = G.hash) := Lib.hid (by rw [hst.out]; exact ⟨hle.fold, hle.hash⟩)
                rw [← hst.out] at hg1
                clear hle
                go_wp2_with (first
                  | (go_at_call 36; (with_reducible refine hg1.out.mono ?_); rintro e w5 ⟨rfl, p5, hA5, hS5⟩; have hA5 := Lib.hid hA5; have hR4 := Lib.hid (hR3.out.aside hA3.out.is hA3.out.out hS5.kept); have hg3 := Lib.hid (hg2.out _ hR4.out); clear hS5)
                  | (go_at_call 32; (with_reducible refine hg3.out.mono ?_); rintro e w6 ⟨rfl, g5, c5, hR5, hK5⟩; have hA6 := Lib.hid (hA5.out.aside hK5 hR5.below); have hR6 := Lib.hid hR5; clear hK5 hR5))
                go_roundw
                case rel => exact ⟨j + 1, by omega, by go_num, p5, g5, c5, by rw [hG1.out]; exact hA6, by rw [hG1.out, hF.out.1, hF.out.2, hst.out]; exact hR6⟩
                case measure => simp [intOf]; omega
      · obtain rfl : j = min n 60 := by omega
        by_cases h6 : n ≤ 60
        · have hmn : min n 60 = n := by omega
          rw [hmn] at hA2 hR2 ⊢
          go_wp2
          go_ret2
          exact ⟨B, B2, p2, rfl, by rw [hmn]; exact hA2.out⟩
        · have hmn : min n 60 = 60 := by omega
          rw [hmn] at hA2 hR2 ⊢
          have hn6 : 60 < n := by omega
          go_wp2
          go_ret2
          exact ⟨B, B2, p2, rfl, by rw [hmn]; exact hA2.out⟩
end Go.Proofs.Ytmljpbbnllfgbaa
