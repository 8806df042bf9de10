/-
  ConeDepth: the walk.
-/
import Derived.Test.YtmljpbbnllfgbaaConeZ
import Derived.Test.YtmljpbbnllfgbaaConeQ
namespace Go.Proofs.Ytmljpbbnllfgbaa
open Go.RowKit Go.Maps Num
set_option maxRecDepth 100000

theorem cd1_any {w0 wr : World} {B q : Nat} {p : Pl} {G : Gr} (h : AtG w0 B wr p G) (hq : wr.cell? ⟨q, 0, none⟩ = some (.pointer (some ⟨B, 0, none⟩))) {a : Option Addr} {n c : Nat} {l : List Int} (hs : Row .u32 wr a n l) (hl : AllThere G l) :
    Calls Try.prog 23 #[.slice a n c, .pointer (some ⟨q, 0, none⟩)] wr fun e w' => e = .returned (.int .i64 (dmax G l)) ∧ Below wr.heap.size wr w' := by
  have hd := Lib.hid (Depth_any (c := c) h.is h.wf (by have := h.len; omega) hs hl)
  rw [depL_max h.wf hl, h.b] at hd
  generalize dmax G l = d at *
  clear h hs hl
  go_enter Try.func23, Try.ntmps23
  go_wp2_with (go_at_call 24; (with_reducible refine hd.out.mono ?_); rintro e w2 ⟨rfl, hB⟩; have hB := Lib.hid hB)
  go_ret
  exact ⟨rfl, hB.out⟩

/-- The first phase: nothing is changed. -/
structure DpA (w wr : World) (Bg : Nat) (pg : Pl) (G : Gr) (q : Nat) : Prop where
  g : AtG w Bg wr pg G
  box : wr.heap[q]? = some (.cells #[.pointer (some ⟨Bg, 0, none⟩)] 29 (0, 0))
theorem DpA.step {w wr w2 : World} {Bg : Nat} {pg : Pl} {G : Gr} {q : Nat} (h : DpA w wr Bg pg G q) (hb : Below wr.heap.size wr w2) : DpA w w2 Bg pg G q :=
  ⟨h.g.step hb, (hb.block _ (Array.getElem?_eq_some_iff.1 h.box).1).trans h.box⟩
theorem DpA.cell {w wr : World} {Bg : Nat} {pg : Pl} {G : Gr} {q : Nat} (h : DpA w wr Bg pg G q) : wr.cell? ⟨q, 0, none⟩ = some (.pointer (some ⟨Bg, 0, none⟩)) := by simp [World.cell?, h.box]
theorem DpA.one {w wr : World} {Bg : Nat} {pg : Pl} {G : Gr} {q : Nat} (h : DpA w wr Bg pg G q) {x : Int} (hx : There G x) :
    Calls Try.prog 23 #[.slice (some ⟨wr.heap.size, 0, none⟩) 1 1, .pointer (some ⟨q, 0, none⟩)] (wr.alloc (.cells #[.int .u32 x] 40)) fun e w' => e = .returned (.int .i64 (dep G (nodeN x))) ∧ DpA w w' Bg pg G q := by
  have hb := (Below.refl wr.heap.size wr).alloc (Nat.le_refl _) (.cells #[.int .u32 x] 40)
  have h2 := h.step hb
  have := cd1_any (c := 1) h2.g h2.cell (row1 wr x 40) (by intro y hy; simp at hy; subst hy; exact hx)
  rw [show dmax G [x] = dep G (nodeN x) by simp [dmax]] at this
  exact this.mono (fun e w' ⟨he, hB⟩ => ⟨he, h2.step hB⟩)
theorem DpA.two {w wr : World} {Bg : Nat} {pg : Pl} {G : Gr} {q : Nat} (h : DpA w wr Bg pg G q) {x y : Int} (hx : There G x) (hy : There G y) :
    Calls Try.prog 23 #[.slice (some ⟨wr.heap.size, 0, none⟩) 2 2, .pointer (some ⟨q, 0, none⟩)] (wr.alloc (.cells #[.int .u32 x, .int .u32 y] 40)) fun e w' => e = .returned (.int .i64 (max (dep G (nodeN x)) (dep G (nodeN y)) : Nat)) ∧ DpA w w' Bg pg G q := by
  have hb := (Below.refl wr.heap.size wr).alloc (Nat.le_refl _) (.cells #[.int .u32 x, .int .u32 y] 40)
  have h2 := h.step hb
  have := cd1_any (c := 2) h2.g h2.cell (row2 wr x y 40) (by intro z hz; simp at hz; rcases hz with rfl | rfl <;> assumption)
  rw [show dmax G [x, y] = max (dep G (nodeN x)) (dep G (nodeN y)) by simp [dmax]] at this
  exact this.mono (fun e w' ⟨he, hB⟩ => ⟨he, h2.step hB⟩)
theorem DpA.nodes {w wr : World} {Bg : Nat} {pg : Pl} {G : Gr} {q : Nat} (h : DpA w wr Bg pg G q) :
    Calls Try.prog 8 #[.pointer (some ⟨Bg, 0, none⟩)] wr fun e w' => e = .returned (.int .i64 G.nodes.length) ∧ wr = w' := by
  have := nodes_any h.g.is.lay h.g.wf.pos
  rw [h.g.b] at this; exact this
theorem DpA.gate {w wr : World} {Bg : Nat} {pg : Pl} {G : Gr} {q : Nat} (h : DpA w wr Bg pg G q) {j : Nat} (hj : j < G.nodes.length) :
    Calls Try.prog 17 #[.pointer (some ⟨Bg, 0, none⟩), .int .i64 j] wr fun e w' => e = .returned (.tuple #[.int .u32 (nodeAt G j).a, .int .u32 (nodeAt G j).b, .bool (nodeAt G j).gate]) ∧ DpA w w' Bg pg G q := by
  have := Gate_any h.g.is h.g.wf (by have := h.g.len; omega) hj
  rw [h.g.b] at this
  exact this.mono (fun e w' ⟨he, hB⟩ => ⟨he, h.step hB⟩)
theorem node_there {G : Gr} (hW : Wf G) (j : Nat) : There G (nodeAt G j).a ∧ There G (nodeAt G j).b := by
  cases hg : (nodeAt G j).gate with
  | true => exact ⟨(gate_lits hW hg).1, (gate_lits hW hg).2.1⟩
  | false =>
    by_cases hj : j < G.nodes.length
    · obtain ⟨e1, e2⟩ := hW.plain j _ (nodeAt_some hj) hg
      rw [e1, e2]; exact ⟨there_zero hW, there_zero hW⟩
    · have e : nodeAt G j = ⟨false, 0, 0⟩ := by
        unfold nodeAt
        rw [List.getD_eq_getElem?_getD, List.getElem?_eq_none (by omega)]; rfl
      rw [e]; exact ⟨there_zero hW, there_zero hW⟩

/-- An empty graph with so many inputs. -/
def inE : Nat → Gr
  | 0 => newG false false
  | k + 1 => inputG (inE k)
theorem inE_is (k : Nat) : Wf (inE k) ∧ (inE k).nodes = List.replicate (k + 1) ⟨false, 0, 0⟩ ∧ (inE k).inputs.length = k ∧ (inE k).fold = false ∧ (inE k).hash = false := by
  induction k with
  | zero => exact ⟨Wf_new _ _, rfl, rfl, rfl, rfl⟩
  | succ k ih =>
    obtain ⟨h1, h2, h3, h4, h5⟩ := ih
    refine ⟨Wf_inputG h1, ?_, ?_, h4, h5⟩
    · show (inE k).nodes ++ [⟨false, 0, 0⟩] = _
      rw [h2, ← List.replicate_succ']
    · show ((inE k).inputs ++ [((inE k).nodes.length : Int)]).length = _
      simp [h3]
theorem inE_gate (k i : Nat) : (nodeAt (inE k) i).gate = false := by
  unfold nodeAt
  rw [(inE_is k).2.1]
  simp only [List.getD, List.getElem?_replicate]
  split <;> rfl
def byE (i : Nat) : Int := 2 * ((i : Int) + 1)
theorem byE_there (k : Nat) (hk : k ≤ 1000000) : AllThere (inE k) (Bits.row k byE) := by
  intro x hx
  simp [Bits.row] at hx
  obtain ⟨i, hi, rfl⟩ := hx
  unfold There IsLit byE
  rw [(inE_is k).2.1]
  simp; omega

/-- The second phase: the empty graph's inputs. -/
structure EmS (w w6 wr : World) (Bg : Nat) (pg : Pl) (G : Gr) (q : Nat) (Be : Nat) (pe : Pl) (k kb : Nat) (v : Value) (xa : Option Addr) (m : Nat) (xl : List Int) : Prop where
  a : DpA w wr Bg pg G q
  e : AtG w Be wr pe (inE k)
  ap : Apart pe pg
  by_ : wr.ownsRow w6.heap.size 40 1 v kb ((Bits.row kb byE).map (Value.int .u32))
  xs : Row .u32 wr xa m xl
  xt : ∀ x, xa = some x → ∃ cur, wr.heap[x.block]? = some (.cells cur 40 (0, 0))
  xb : ∀ x, xa = some x → x.block < w6.heap.size
  lo : w.heap.size ≤ w6.heap.size ∧ w6.heap.size ≤ wr.heap.size
theorem EmS.step {w w6 wr w2 : World} {Bg Be : Nat} {pg pe : Pl} {G : Gr} {q k kb m : Nat} {v : Value} {xa : Option Addr} {xl : List Int} (h : EmS w w6 wr Bg pg G q Be pe k kb v xa m xl) (hb : Below wr.heap.size wr w2) : EmS w w6 w2 Bg pg G q Be pe k kb v xa m xl :=
  ⟨h.a.step hb, h.e.step hb, h.ap, own_below h.by_ hb, h.xs.step hb, fun x hx => by
    obtain ⟨cur, hc⟩ := h.xt x hx
    exact ⟨cur, (hb.block _ (Array.getElem?_eq_some_iff.1 hc).1).trans hc⟩, h.xb, h.lo.1, Nat.le_trans h.lo.2 hb.size⟩
theorem EmS.kept {F : Nat → Prop} {w w6 wr w2 : World} {Bg Be : Nat} {pg pe : Pl} {G : Gr} {q k kb m : Nat} {v : Value} {xa : Option Addr} {xl : List Int} (h : EmS w w6 wr Bg pg G q Be pe k kb v xa m xl) (hk : Kept F wr w2) (hp : ∀ k, F k → ¬ pg.has k) (hq : ¬ F q) (hx : ∀ x, xa = some x → ¬ F x.block) (hb : Below w.heap.size w w2) :
    DpA w w2 Bg pg G q ∧ Row .u32 w2 xa m xl ∧ (∀ x, xa = some x → ∃ cur, w2.heap[x.block]? = some (.cells cur 40 (0, 0))) :=
  ⟨⟨⟨h.a.g.is.beside hk hp, h.a.g.wf, h.a.g.b, h.a.g.out, hb, h.a.g.len⟩, (hk.block _ (Array.getElem?_eq_some_iff.1 h.a.box).1 hq).trans h.a.box⟩, h.xs.kept hk (fun x e _ => hx x e), fun x e => by
    obtain ⟨cur, hc⟩ := h.xt x e
    exact ⟨cur, (hk.block _ (Array.getElem?_eq_some_iff.1 hc).1 (hx x e)).trans hc⟩⟩
theorem EmS.input {w w6 wr : World} {Bg Be : Nat} {pg pe : Pl} {G : Gr} {q k kb m : Nat} {v : Value} {xa : Option Addr} {xl : List Int} (h : EmS w w6 wr Bg pg G q Be pe k kb v xa m xl) (hk : k ≤ 1000) :
    Calls Try.prog 27 #[.pointer (some ⟨Be, 0, none⟩)] wr fun e w' => e = .returned (.tuple #[.int .u32 (byE k), .int .i64 0]) ∧ ∃ p2, EmS w w6 w' Bg pg G q Be p2 (k + 1) kb v xa m xl := by
  have hn : (inE k).nodes.length = k + 1 := by rw [(inE_is k).2.1]; simp
  have := h.e.inputS (by omega)
  rw [hn] at this
  refine this.mono (fun e w' ⟨he, p2, hA, hS⟩ => ⟨by rw [he]; unfold byE; rfl, p2, ?_⟩)
  obtain ⟨h1, h2, h3⟩ := h.kept hS.kept h.ap (h.e.is.other h.a.box (by decide) (by decide) (by decide)) (fun x hx => by
    obtain ⟨cur, hc⟩ := h.xt x hx
    exact h.e.is.other hc (by decide) (by decide) (by decide)) hA.below
  exact ⟨h1, hA, h.ap.step hS h.a.g.is, own_beside h.e.is h.by_ hS.kept (by decide) (by decide) (by decide), h2, h3, h.xb, h.lo.1, Nat.le_trans h.lo.2 hS.kept.size⟩
theorem EmS.push {w w6 wr w2 : World} {Bg Be : Nat} {pg pe : Pl} {G : Gr} {q k kb m : Nat} {v v2 : Value} {xa : Option Addr} {xl : List Int} (h : EmS w w6 wr Bg pg G q Be pe k kb v xa m xl) (hg : wr.grownBy w2 v.ownBlock)
    (ho : w2.ownsRow w6.heap.size 40 1 v2 (kb + 1) ((Bits.row (kb + 1) byE).map (Value.int .u32))) : EmS w w6 w2 Bg pg G q Be pe k (kb + 1) v2 xa m xl := by
  have hM : Mine w wr 40 v kb ((Bits.row kb byE).map (Value.int .u32)) := ⟨own_base h.by_ h.lo.1, by decide, by decide, by decide⟩
  have he := h.e.grown hM hg
  have hk := kept_grown hg
  obtain ⟨h1, h2, h3⟩ := h.kept hk (fun k hk hp => by
    obtain ⟨cur, hc⟩ := own_type h.by_ hk
    exact h.a.g.is.other hc (by decide) (by decide) (by decide) hp) (fun hk => by
    obtain ⟨cur, hc⟩ := own_type h.by_ hk
    have := h.a.box
    rw [hc] at this; simp at this) (fun x hx hk => by
    have := own_ge h.by_ _ hk
    have := h.xb x hx
    omega) he.below
  exact ⟨h1, he, h.ap, ho, h2, h3, h.xb, h.lo.1, Nat.le_trans h.lo.2 hg.size⟩

theorem of_at (j : Nat) (t : Bool) (hj : j ≤ 1000000) (w : World) : Calls Try.prog 25 #[.int .i64 j, .bool t] w fun e w' => e = .returned (.tuple #[.int .u32 (2 * (j : Int) + if t then 1 else 0), .int .i64 0]) ∧ w = w' := by
  have h := of_any j t (by omega) w
  have hb : ofBad (j : Int) = false := by unfold ofBad; simp; omega
  rw [show ofV (j : Int) t = 2 * (j : Int) + if t then 1 else 0 by unfold ofV; rw [hb]; rfl, show ofE (j : Int) = 0 by unfold ofE; rw [hb]; rfl] at h
  exact h

/-- Behind the copy. -/
structure PhE (w w9 : World) (Bg : Nat) (pg : Pl) (G : Gr) (q : Nat) (Be : Nat) (p9 : Pl) (E2 : Gr) (xa : Option Addr) (m : Nat) (xl : List Int) (g9 : Nat) (yl : List Int) : Prop where
  a : DpA w w9 Bg pg G q
  e : AtG w Be w9 p9 E2
  xs : Row .u32 w9 xa m xl
  ys : Row .u32 w9 (some ⟨g9, 0, none⟩) m yl
theorem phE {w w6 w8 w9 : World} {Bg Be : Nat} {pg pe p9 : Pl} {G E2 : Gr} {q k kb m g9 : Nat} {v : Value} {xa : Option Addr} {xl yl : List Int} (h : EmS w w6 w8 Bg pg G q Be pe k kb v xa m xl) (hC : Copied w8 pe w9 p9 E2 g9 m yl) (hW : Wf E2) (hl : E2.nodes.length ≤ 100000) (hm : m ≤ 100000) (hyl : yl.length = m) :
    PhE w w9 Bg pg G q Be p9 E2 xa m xl g9 yl := by
  have he := h.e.next hC.step hW hl
  obtain ⟨h1, h2, -⟩ := h.kept hC.step.kept h.ap (h.e.is.other h.a.box (by decide) (by decide) (by decide)) (fun x hx => by
    obtain ⟨cur, hc⟩ := h.xt x hx
    exact h.e.is.other hc (by decide) (by decide) (by decide)) he.below
  exact ⟨h1, he, h2, Row.of_own hC.row hyl (by omega)⟩
/-- What comes of the copy into the empty graph. -/
structure DepOut (G : Gr) (l : List Int) (il : Nat) (E2 : Gr) (S : List Int) : Prop where
  wf : Wf E2
  there : ∀ x, There E2 (overV S x)
  ins : E2.inputs.length = il
  len : E2.nodes.length + (supL G l).length = il + 1 + (reachL G l).length
  max : dmax E2 (l.map (overV S)) = dmax G l
theorem depOut {G : Gr} {l : List Int} (hW : Wf G) (hl : AllThere G l) (hN : G.nodes.length ≤ 100000) (hi : G.inputs.length ≤ 100000) : DepOut G l G.inputs.length (copyG G l (inE G.inputs.length) (Bits.row G.inputs.length byE)).1 (copyG G l (inE G.inputs.length) (Bits.row G.inputs.length byE)).2 := by
  obtain ⟨e1, e2, e3, e4, e5⟩ := inE_is G.inputs.length
  have hb := byE_there G.inputs.length (by omega)
  have hlen : (inE G.inputs.length).nodes.length = G.inputs.length + 1 := by rw [e2]; simp
  have hle : (inE G.inputs.length).nodes.length + G.nodes.length ≤ 8000000 := by omega
  have h := cp_ok (l := l) hW (start_ok e1 hW hb) hle _ (Nat.le_refl _)
  have hm := copy_many (l := l) hW e1 hb hle e4 e5 _ (Nat.le_refl _)
  have hs := sel_split G l G.nodes.length
  refine ⟨h.wf, fun x => over_there h.lits x, by show (cpTo _ _ _ _).1.inputs.length = _; rw [h.ins]; exact e3, ?_, ?_⟩
  · show (cpTo G l (inE G.inputs.length, inS G.nodes.length G.inputs (Bits.row G.inputs.length byE) G.inputs.length) G.nodes.length).1.nodes.length + _ = _
    unfold reachL supL
    omega
  · refine dmax_over (fun x hx => ?_)
    rw [nodeN_over]
    exact copy_dep hW e1 hb hl hle e4 e5 (fun k _ => inE_gate _ _) (by simp [Bits.row]) _ (Leans.lit hx)

theorem row_map {l : List Int} {m : Nat} (h : l.length = m) (f : Int → Int) : Bits.row m (fun i => f (l.getD i 0)) = l.map f := by
  subst h
  apply List.ext_getElem
  · simp [Bits.row]
  · intro i h1 h2
    simp at h2
    simp [Bits.row, List.getD, h2]

set_option maxHeartbeats 4000000 in
theorem ConeDepth_any {w : World} (F1 H1 : Bool) {La a : Option Addr} {Ln Lc n c : Nat} {SL : Nat → Int × Int × Int} {l : List Int} (hL : Steps w La Ln SL) (hs : Row .u32 w a n l) (hl : ∀ x ∈ l, IsLit x) :
    Calls Try.prog 5 #[.agg #[.bool F1, .bool H1], .slice La Ln Lc, .slice a n c] w fun e w' => e = .returned (.bool true) ∧ Below w.heap.size w w' := by
  have hbx := Lib.hid (bld_box w (.bool F1) (.bool H1) 23)
  have hb0 : Below w.heap.size w (w.alloc (.cells #[.bool F1, .bool H1] 23)) := (Below.refl _ _).alloc (Nat.le_refl _) _
  have hb1 := Lib.hid (Build_any F1 H1 (cap := Lc) (hL.step hb0))
  have g1 := buildG_good F1 H1 SL (min Ln 60) (by omega)
  have hGl : (buildG F1 H1 SL (min Ln 60)).nodes.length ≤ 181 := by have := g1.2.2; omega
  have hGp := g1.1.pos
  have hWG := Lib.hid g1.1
  have hGc := g1.1.cnt
  have hG0 : (((buildG F1 H1 SL (min Ln 60)).nodes.length : Int) == 0) = false := beqf (by omega)
  have hnew := Lib.hid (fun B w1 p (h : AtG (w.alloc (.cells #[.bool F1, .bool H1] 23)) B w1 p (buildG F1 H1 SL (min Ln 60))) =>
    show DpA w (w1.alloc (.cells #[.pointer (some ⟨B, 0, none⟩)] 29)) B p (buildG F1 H1 SL (min Ln 60)) w1.heap.size from
      ⟨(h.base hb0).step ((Below.refl _ _).alloc (Nat.le_refl _) _), Deep.blk_alloc_new _ _⟩)
  generalize hG : buildG F1 H1 SL (min Ln 60) = G at *
  clear hL hG g1 hb0
  go_enter Try.func5, Try.ntmps5
  go_wp2_with (first
    | (go_at_call 7; (with_reducible refine hb1.out.mono ?_); rintro e w1 ⟨Bg, Bg2, pg, rfl, hg⟩; have hA := Lib.hid (hnew.out _ _ _ hg); have hn1 := Lib.hid hA.out.nodes; generalize hq : w1.heap.size = q at *; clear hg hb1 hnew)
    | (go_at_call 8; (with_reducible refine hn1.out.mono ?_); rintro e w9 ⟨rfl, rfl⟩))
  clear hn1 hG0
  go_wp2
  go_loopw [10] (fun s wr => ∃ j : Nat, j ≤ G.nodes.length ∧ s = .int .i64 j ∧ Hid (DpA w wr Bg pg G q)) (fun s _ => G.nodes.length - (intOf s).toNat)
  case atStart => exact ⟨0, Nat.zero_le _, rfl, hA⟩
  case round =>
    clear hA
    obtain ⟨j, hj, rfl, hA⟩ := hrel
    have hc := hA.out.cell
    have hn1 := Lib.hid hA.out.nodes
    by_cases hlt : j < G.nodes.length
    · have hg1 := Lib.hid (hA.out.gate hlt)
      obtain ⟨hta, htb⟩ := node_there hWG.out j
      have hdj := dep_le hWG.out j
      have hda := dep_le hWG.out (nodeN (nodeAt G j).a)
      have hdb := dep_le hWG.out (nodeN (nodeAt G j).b)
      have hna := nodeN_lt hta
      have hnb := nodeN_lt htb
      have hX : ∀ t : Bool, There G (2 * (j : Int) + if t then 1 else 0) ∧ nodeN (2 * (j : Int) + if t then 1 else 0) = j := fun t => by
        unfold There IsLit nodeN
        cases t <;> simp <;> omega
      have hTX := Lib.hid (fun t => (hX t).1)
      have hof := Lib.hid (fun t w2 => of_at j t (by omega) w2)
      have hone := Lib.hid (fun wr t (h : DpA w wr Bg pg G q) => h.one (hX t).1)
      have hNX := Lib.hid (fun t => (hX t).2)
      have hoa := Lib.hid (fun wr (h : DpA w wr Bg pg G q) => h.one hta)
      have hob := Lib.hid (fun wr (h : DpA w wr Bg pg G q) => h.one htb)
      have hab := Lib.hid (fun wr (h : DpA w wr Bg pg G q) => h.two hta htb)
      have hpar : ∃ t : Bool, ((j : Int) % 2 == 1) = t ∧ ((j : Int).tmod 2 == 1) = t ∧ (if t then (1 : Int) else 0) = (j : Int) % 2 := by
        have e : (j : Int).tmod 2 = (j : Int) % 2 := Int.tmod_eq_emod_of_nonneg (by omega)
        rcases (show (j : Int) % 2 = 0 ∨ (j : Int) % 2 = 1 by omega) with h | h
        · exact ⟨false, by rw [h]; rfl, by rw [e, h]; rfl, by rw [h]; rfl⟩
        · exact ⟨true, by rw [h]; rfl, by rw [e, h]; rfl, by rw [h]; rfl⟩
      obtain ⟨t, hp1, hp2, hp3⟩ := hpar
      have hof1 := Lib.hid (hof.out t)
      have hone1 := Lib.hid (fun wr h => hone.out wr t h)
      have hge := Lib.hid (fun (hg : (nodeAt G j).gate = true) => dep_gate hWG.out hg)
      have hpl := Lib.hid (fun (hg : (nodeAt G j).gate = false) => dep_plain hg)
      simp only [hNX.out] at hone1
      generalize (2 * (j : Int) + if t then 1 else 0) = X at *
      generalize (nodeAt G j).gate = ga at *
      generalize dep G (nodeN (nodeAt G j).a) = dA at *
      generalize dep G (nodeN (nodeAt G j).b) = dB at *
      generalize (nodeAt G j).a = na at *
      generalize (nodeAt G j).b = nb at *
      generalize dep G j = dX at *
      clear hX hTX hof hone hNX hta htb hna hnb hp3
      -- @slow
      by_cases hmx : dA < dB
      · rw [show max dA dB = dB by omega] at *
        have hmi : max (dA : Int) dB = dB := by omega
        cases ga with
        | true =>
          have hdx := hge.out rfl
          have hq1 : ((dX : Int) != 1 + dB) = false := bnef (by omega)
          have hq2 : ((dB : Int) != dB) = false := bnef rfl
          clear hge hpl
          go_wp2_with (first
            | (go_at_call 8; (with_reducible refine hn1.out.mono ?_); rintro e w9 ⟨rfl, rfl⟩)
            | (go_at_call 25; (with_reducible refine (hof1.out _).mono ?_); rintro e w9 ⟨rfl, rfl⟩)
            | (go_at_call 17; (with_reducible refine hg1.out.mono ?_); rintro e w9 ⟨rfl, hn⟩; have hA2 := Lib.hid hn; clear hA hn hc; have hA := hA2; clear hA2; have hc := hA.out.cell)
            | (go_at_call 23; (with_reducible refine (hone1.out _ hA.out).mono ?_); rintro e w9 ⟨rfl, hn⟩; have hA2 := Lib.hid hn; clear hA hn hc; have hA := hA2; clear hA2; have hc := hA.out.cell)
            | (go_at_call 23; (with_reducible refine (hab.out _ hA.out).mono ?_); rintro e w9 ⟨rfl, hn⟩; have hA2 := Lib.hid hn; clear hA hn hc; have hA := hA2; clear hA2; have hc := hA.out.cell)
            | (go_at_call 23; (with_reducible refine (hoa.out _ hA.out).mono ?_); rintro e w9 ⟨rfl, hn⟩; have hA2 := Lib.hid hn; clear hA hn hc; have hA := hA2; clear hA2; have hc := hA.out.cell)
            | (go_at_call 23; (with_reducible refine (hob.out _ hA.out).mono ?_); rintro e w9 ⟨rfl, hn⟩; have hA2 := Lib.hid hn; clear hA hn hc; have hA := hA2; clear hA2; have hc := hA.out.cell))
          exact ⟨⟨j + 1, by omega, by go_num, hA⟩, by simp [intOf]; omega⟩
        | false =>
          have hdx := hpl.out rfl
          have hq1 : ((dX : Int) != 0) = false := bnef (by omega)
          have hq2 : ((dB : Int) != dB) = false := bnef rfl
          clear hge hpl
          go_wp2_with (first
            | (go_at_call 8; (with_reducible refine hn1.out.mono ?_); rintro e w9 ⟨rfl, rfl⟩)
            | (go_at_call 25; (with_reducible refine (hof1.out _).mono ?_); rintro e w9 ⟨rfl, rfl⟩)
            | (go_at_call 17; (with_reducible refine hg1.out.mono ?_); rintro e w9 ⟨rfl, hn⟩; have hA2 := Lib.hid hn; clear hA hn hc; have hA := hA2; clear hA2; have hc := hA.out.cell)
            | (go_at_call 23; (with_reducible refine (hone1.out _ hA.out).mono ?_); rintro e w9 ⟨rfl, hn⟩; have hA2 := Lib.hid hn; clear hA hn hc; have hA := hA2; clear hA2; have hc := hA.out.cell)
            | (go_at_call 23; (with_reducible refine (hab.out _ hA.out).mono ?_); rintro e w9 ⟨rfl, hn⟩; have hA2 := Lib.hid hn; clear hA hn hc; have hA := hA2; clear hA2; have hc := hA.out.cell)
            | (go_at_call 23; (with_reducible refine (hoa.out _ hA.out).mono ?_); rintro e w9 ⟨rfl, hn⟩; have hA2 := Lib.hid hn; clear hA hn hc; have hA := hA2; clear hA2; have hc := hA.out.cell)
            | (go_at_call 23; (with_reducible refine (hob.out _ hA.out).mono ?_); rintro e w9 ⟨rfl, hn⟩; have hA2 := Lib.hid hn; clear hA hn hc; have hA := hA2; clear hA2; have hc := hA.out.cell))
          exact ⟨⟨j + 1, by omega, by go_num, hA⟩, by simp [intOf]; omega⟩
      · rw [show max dA dB = dA by omega] at *
        have hmi : max (dA : Int) dB = dA := by omega
        cases ga with
        | true =>
          have hdx := hge.out rfl
          have hq1 : ((dX : Int) != 1 + dA) = false := bnef (by omega)
          have hq2 : ((dA : Int) != dA) = false := bnef rfl
          clear hge hpl
          go_wp2_with (first
            | (go_at_call 8; (with_reducible refine hn1.out.mono ?_); rintro e w9 ⟨rfl, rfl⟩)
            | (go_at_call 25; (with_reducible refine (hof1.out _).mono ?_); rintro e w9 ⟨rfl, rfl⟩)
            | (go_at_call 17; (with_reducible refine hg1.out.mono ?_); rintro e w9 ⟨rfl, hn⟩; have hA2 := Lib.hid hn; clear hA hn hc; have hA := hA2; clear hA2; have hc := hA.out.cell)
            | (go_at_call 23; (with_reducible refine (hone1.out _ hA.out).mono ?_); rintro e w9 ⟨rfl, hn⟩; have hA2 := Lib.hid hn; clear hA hn hc; have hA := hA2; clear hA2; have hc := hA.out.cell)
            | (go_at_call 23; (with_reducible refine (hab.out _ hA.out).mono ?_); rintro e w9 ⟨rfl, hn⟩; have hA2 := Lib.hid hn; clear hA hn hc; have hA := hA2; clear hA2; have hc := hA.out.cell)
            | (go_at_call 23; (with_reducible refine (hoa.out _ hA.out).mono ?_); rintro e w9 ⟨rfl, hn⟩; have hA2 := Lib.hid hn; clear hA hn hc; have hA := hA2; clear hA2; have hc := hA.out.cell)
            | (go_at_call 23; (with_reducible refine (hob.out _ hA.out).mono ?_); rintro e w9 ⟨rfl, hn⟩; have hA2 := Lib.hid hn; clear hA hn hc; have hA := hA2; clear hA2; have hc := hA.out.cell))
          exact ⟨⟨j + 1, by omega, by go_num, hA⟩, by simp [intOf]; omega⟩
        | false =>
          have hdx := hpl.out rfl
          have hq1 : ((dX : Int) != 0) = false := bnef (by omega)
          have hq2 : ((dA : Int) != dA) = false := bnef rfl
          clear hge hpl
          go_wp2_with (first
            | (go_at_call 8; (with_reducible refine hn1.out.mono ?_); rintro e w9 ⟨rfl, rfl⟩)
            | (go_at_call 25; (with_reducible refine (hof1.out _).mono ?_); rintro e w9 ⟨rfl, rfl⟩)
            | (go_at_call 17; (with_reducible refine hg1.out.mono ?_); rintro e w9 ⟨rfl, hn⟩; have hA2 := Lib.hid hn; clear hA hn hc; have hA := hA2; clear hA2; have hc := hA.out.cell)
            | (go_at_call 23; (with_reducible refine (hone1.out _ hA.out).mono ?_); rintro e w9 ⟨rfl, hn⟩; have hA2 := Lib.hid hn; clear hA hn hc; have hA := hA2; clear hA2; have hc := hA.out.cell)
            | (go_at_call 23; (with_reducible refine (hab.out _ hA.out).mono ?_); rintro e w9 ⟨rfl, hn⟩; have hA2 := Lib.hid hn; clear hA hn hc; have hA := hA2; clear hA2; have hc := hA.out.cell)
            | (go_at_call 23; (with_reducible refine (hoa.out _ hA.out).mono ?_); rintro e w9 ⟨rfl, hn⟩; have hA2 := Lib.hid hn; clear hA hn hc; have hA := hA2; clear hA2; have hc := hA.out.cell)
            | (go_at_call 23; (with_reducible refine (hob.out _ hA.out).mono ?_); rintro e w9 ⟨rfl, hn⟩; have hA2 := Lib.hid hn; clear hA hn hc; have hA := hA2; clear hA2; have hc := hA.out.cell))
          exact ⟨⟨j + 1, by omega, by go_num, hA⟩, by simp [intOf]; omega⟩
      -- @end
    · obtain rfl : j = G.nodes.length := by omega
      obtain ⟨w5, rfl⟩ : ∃ w, w = wr := ⟨_, rfl⟩
      have hins := Lib.hid (inside_any (c := c) (hs.step hA.out.g.below) hl hGp (show G.nodes.length ≤ 100000 by omega))
      have hnw := Lib.hid (fun w6 => new_any false false w6)
      obtain ⟨il, hil⟩ : ∃ il, il = G.inputs.length := ⟨_, rfl⟩
      have hil9 : il ≤ 181 := by omega
      have hlen := hs.len
      have hxl : Hid (AllThere G ((l.take 40).map (brV G.nodes.length)) ∧ ((l.take 40).map (brV G.nodes.length)).length = min n 40) := Lib.hid ⟨fun x hx => by
        obtain ⟨z, -, rfl⟩ := List.mem_map.1 hx
        exact brV_there hWG.out (by omega) z, by simp; omega⟩
      have hm40 : min n 40 ≤ 40 := by omega
      have hem : Hid (∀ w4 w6 xa xc pe, Below w5.heap.size w5 w4 → MadeR w5 w4 40 .u32 xa (min n 40) xc ((l.take 40).map (brV G.nodes.length)) → Is w6 pe (newG false false) → Below w4.heap.size w4 w6 → (∀ k, pe.has k → w4.heap.size ≤ k) → EmS w w6 w6 Bg pg G q pe.b pe 0 0 (.slice none 0 0) xa (min n 40) ((l.take 40).map (brV G.nodes.length))) := Lib.hid (fun w4 w6 xa xc pe h4 hm hI hb ho => by
        have hA4 := hA.out.step h4
        have hA6 := hA4.step hb
        have hrow : Row .u32 w4 xa (min n 40) ((l.take 40).map (brV G.nodes.length)) := Row.of_own hm.own (by have := hm.own.1; simpa using this) (by omega)
        refine ⟨hA6, atg_new hA4.g.below hI hb ho, Apart.new ho hA4.g.is, own_nil _ _ _, hrow.step hb, fun x hx => ?_, fun x hx => ?_, hA6.g.below.size, Nat.le_refl _⟩
        · subst hx; exact own_type (own_below hm.own hb) rfl
        · subst hx
          obtain ⟨cur, hc⟩ := own_type hm.own rfl
          have := (Array.getElem?_eq_some_iff.1 hc).1
          have := hb.size
          omega)
      have hlt := Lib.hid (fun w3 x2 xc2 (h : MadeR w5 w3 39 .u32 x2 (min n 40) xc2 ((l.take 40).map (brV G.nodes.length))) => inside_lits h)
      generalize (l.take 40).map (brV G.nodes.length) = xl at *
      generalize hmn : min n 40 = m at *
      have hdo := Lib.hid (depOut hWG.out hxl.out.1 (by omega) (by omega))
      have hil2 := Lib.hid hil
      clear hmn hlen hs hl hil
      go_wp2_with (first
        | (go_at_call 8; (with_reducible refine hn1.out.mono ?_); rintro e w9 ⟨rfl, rfl⟩)
        | (go_at_call 10; (with_reducible refine hins.out.mono ?_); rintro e w3 ⟨x2, xc2, rfl, hm3⟩; have hl3 := Lib.hid (hlt.out _ _ _ hm3); clear hm3)
        | (go_at_call 9; (with_reducible refine hl3.out.mono ?_); rintro e w4 ⟨xa, xc, rfl, hm4⟩; have hm4 := Lib.hid hm4)
        | (go_at_call 26; (with_reducible refine (hnw.out _).mono ?_); rintro e w6 ⟨pe, rfl, hI, hb, ho⟩; have hE := Lib.hid (hem.out _ _ _ _ _ hm4.out.below hm4.out hI hb ho); have hin := Lib.hid hE.out.a.g.inputsOf; clear hI hb ho; have hc := hE.out.a.cell)
        | (go_at_call 11; (with_reducible refine hin.out.mono ?_); rintro e w7 ⟨ua, uc, rfl, hB⟩; have hE7 := Lib.hid (hE.out.step hB); clear hB))
      obtain ⟨w6, rfl⟩ : ∃ w, w = w6 := ⟨_, rfl⟩
      clear hn1 hins hnw hl3 hlt hm4 hem hE hin hA hc
      obtain ⟨Be, hBe⟩ : ∃ Be, Be = pe.b := ⟨_, rfl⟩
      rw [← hBe] at hE7 ⊢
      rw [← hil2.out]
      clear hBe
      obtain ⟨i0, hi, hz0, hz1, hz2⟩ := info_parts info_lit
      have hrows : Hid (∀ j, (Bits.row (j + 1) byE).map (Value.int .u32) = (Bits.row j byE).map (Value.int .u32) ++ [.int .u32 (byE j)]) := Lib.hid (fun j => by simp [Bits.row, List.range_succ])
      go_loopw [18, 112] (fun v s wr => ∃ (k : Nat) (pe : Pl), k ≤ il ∧ s = .int .i64 k ∧ Hid (EmS w w6 wr Bg pg G q Be pe k k v xa m xl)) (fun _ s _ => il - (intOf s).toNat)
      case atStart => exact ⟨0, pe, Nat.zero_le _, rfl, hE7⟩
      case round =>
        clear hE7
        obtain ⟨k, pe2, hk, rfl, hE⟩ := hrel
        obtain ⟨va, vc, rfl⟩ := own_slice hE.out.by_
        by_cases hlk : k < il
        · have hip := Lib.hid (hE.out.input (by omega))
          have hsr := Lib.hid (hrows.out k)
          generalize byE k = y at *
          go_wp2_with (first
            | (go_at_call 27; (with_reducible refine hip.out.mono ?_); rintro e w8 ⟨rfl, p2, hE2⟩; have hE3 := Lib.hid (hE2.step ((Below.refl _ _).alloc (Nat.le_refl _) (.cells #[.int .u32 y] 40))); have hlo := hE2.lo.2; clear hE2 hip)
            | (at_builtin; refine wpList_append_lies _ rfl _ _ 34 rfl w6.heap.size 40 i0 (.int .u32 0) 1 4 Try.underlying34 hi hz0 hz1 hz2 rfl (by decide) (.slice va k vc) k _ rfl hE3.out.by_ ⟨w8.heap.size, 0, none⟩ 1 1 [.int .u32 _] rfl rfl (news1 _ _ _) (by simp [Value.oneCell']) (by decide) (by unfold maxLen; omega) (by omega) (by simp; omega) _ rfl ?_; intro g cap1 w7 hown1 hgrow1 hat1 hlt1; have hE4 := Lib.hid (hE3.out.push hgrow1 (by rw [hsr.out]; exact hown1)); clear hown1 hgrow1 hat1 hlt1))
          exact ⟨⟨k + 1, p2, by omega, by go_num, hE4⟩, by simp [intOf]; omega⟩
        · obtain rfl : k = il := by omega
          have hby : Hid (Row .u32 wr va k (Bits.row k byE)) := Lib.hid (Row.of_own hE.out.by_ (by simp [Bits.row]) (by omega))
          have hbm : Hid (∀ x, va = some x → ∃ cur, wr.heap[x.block]? = some (.cells cur 40 (0, 0))) := Lib.hid (fun x hx => by subst hx; exact own_type hE.out.by_ rfl)
          have hcp := Lib.hid (CopyL_any (bc := vc) (c := xc) hE.out.e.is hE.out.e.wf (by rw [(inE_is k).2.1]; simp; omega) hE.out.a.g.is hE.out.a.g.wf (by omega) hE.out.ap (ba := va) (byl := Bits.row k byE) (by rw [← hil2.out]; exact hby.out) (byE_there k (by omega)) (a := xa) (n := m) (l := xl) hE.out.xs (fun x hx _ => by obtain ⟨cur, hc⟩ := hE.out.xt x hx; exact hE.out.e.is.other hc (by decide) (by decide) (by decide)) hxl.out.1 (by omega))
          rw [hE.out.e.b, hE.out.a.g.b, ← hil2.out] at hcp
          rw [← hil2.out] at hdo
          generalize copyG G xl (inE k) (Bits.row k byE) = CP at *
          obtain ⟨E2, S2⟩ := CP
          simp only at hcp
          have hd := hdo.out
          simp only at hd
          have HD := Lib.hid hd
          have hyl : Hid (AllThere E2 (Bits.row m (fun i => overV S2 (xl.getD i 0))) ∧ (Bits.row m (fun i => overV S2 (xl.getD i 0))).length = m ∧ dmax E2 (Bits.row m (fun i => overV S2 (xl.getD i 0))) = dmax G xl) := Lib.hid ⟨fun x hx => by
            simp [Bits.row] at hx
            obtain ⟨z, -, rfl⟩ := hx
            exact hd.there _, by simp [Bits.row], by rw [row_map hxl.out.2]; exact hd.max⟩
          have hrl := selTo_len (ReachP G xl) G.nodes.length
          have hrl2 : (reachL G xl).length ≤ 181 := by unfold reachL; omega
          have hE2l : E2.nodes.length ≤ 100000 := by have := hd.len; omega
          have hmk := Lib.hid (fun w9 p9 g9 (hC : Copied wr pe2 w9 p9 E2 g9 m (Bits.row m (fun i => overV S2 (xl.getD i 0)))) => phE hE.out hC HD.out.wf hE2l (by omega) hyl.out.2.1)
          generalize Bits.row m (fun i => overV S2 (xl.getD i 0)) = yl2 at *
          have hsl : (supL G xl).length ≤ 181 := by have := sel_split G xl G.nodes.length; unfold supL; unfold reachL at hrl2; omega
          have hgl : (E2.nodes.length : Int) - 1 - k = ((reachL G xl).length : Int) - (supL G xl).length := by have := hd.len; omega
          have hd0 := dmax G xl
          have hc := hE.out.a.cell
          have hds := Lib.hid (fun w9 p9 g9 (hP : PhE w w9 Bg pg G q Be p9 E2 xa m xl g9 yl2) =>
            show Calls Try.prog 24 #[.pointer (some ⟨Be, 0, none⟩), .slice (some ⟨g9, 0, none⟩) m m] w9 fun e w' => e = .returned (.tuple #[.int .i64 (dmax G xl), .int .i64 0]) ∧ Below w9.heap.size w9 w' from by
              have := Depth_any (c := m) hP.e.is hP.e.wf (by omega) hP.ys hyl.out.1
              rw [depL_max hP.e.wf hyl.out.1, hyl.out.2.2, hP.e.b] at this
              exact this)
          clear hE hdo hd hby hbm hd0 hrl
          go_wp2_with (first
            | (go_at_call 13; (with_reducible refine hcp.out.mono ?_); rintro e w9 ⟨p9, g9, rfl, hC⟩; have hP := Lib.hid (hmk.out _ _ _ hC); have hc := hP.out.a.cell; have hds1 := Lib.hid (hds.out _ _ _ hP.out); clear hC hmk)
            | (go_at_call 24; (with_reducible refine hds1.out.mono ?_); rintro e w10 ⟨rfl, hB⟩; have I := Lib.hid hB; have hA := Lib.hid (hP.out.a.step hB); have hc := hA.out.cell; have hr1 := Lib.hid (Reach_any (c := xc) hA.out.g.is hA.out.g.wf (show G.nodes.length ≤ 200000 by omega) (hP.out.xs.step hB) hxl.out.1); rw [hA.out.g.b] at hr1; clear hB hds1)
            | (go_at_call 18; (with_reducible refine hr1.out.mono ?_); rintro e w11 ⟨ra, rc, rfl, hT⟩; have I2 := Lib.hid (nextw I.out hT.below); have hA2 := Lib.hid (hA.out.step hT.below); have hc := hA2.out.cell; have hs1 := Lib.hid (Support_any (c := xc) hA2.out.g.is hA2.out.g.wf (show G.nodes.length ≤ 200000 by omega) (hP.out.xs.step I2.out) hxl.out.1); rw [hA2.out.g.b] at hs1; clear hT hr1 hA I)
            | (go_at_call 19; (with_reducible refine hs1.out.mono ?_); rintro e w12 ⟨sa, sc, rfl, hT⟩; have I3 := Lib.hid (nextw I2.out hT.below); have hA3 := Lib.hid (hA2.out.step hT.below); have hc := hA3.out.cell; have hcd := Lib.hid (cd1_any (c := xc) hA3.out.g hA3.out.cell (hP.out.xs.step I3.out) hxl.out.1); clear hT hs1 hA2 I2)
            | (go_at_call 23; (with_reducible refine hcd.out.mono ?_); rintro e w13 ⟨rfl, hB⟩; have I4 := Lib.hid (nextw I3.out hB); have hga := Lib.hid (gates_any (hP.out.e.step I4.out).is.lay HD.out.wf.pos (by have := HD.out.wf.cnt; omega) (by omega)); rw [(hP.out.e.step I4.out).b, HD.out.ins, hgl] at hga; clear hB hcd I3)
            | (go_at_call 20; (with_reducible refine hga.out.mono ?_); rintro e w14 ⟨rfl, hB⟩; have I5 := Lib.hid (nextw I4.out hB); have hte := Lib.hid (tells_any w14); clear hB hga I4)
            | (go_at_call 21; (with_reducible refine hte.out.mono ?_); rintro e w15 ⟨rfl, hB⟩; have I6 := Lib.hid (nextw I5.out hB); clear hB hte I5))
          go_ret
          exact ⟨rfl, nextw hP.out.a.g.below I6.out⟩
end Go.Proofs.Ytmljpbbnllfgbaa
