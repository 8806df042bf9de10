/-
  A graph that a call has made for itself, with its calls; rows that a call has made itself.
  Where a netlist lies: its own struct, its graph, its buses and registers; what is left as it was.
-/
import Derived.Test.YtafoohdndlhbnaaGreatDoorFEND
import Derived.Test.YtafoohdndlhbnaaGreatDoorFENE
import Derived.ArgAppend
section
namespace Go.Proofs.YtafoohdndlhbnaaGreatDoor
open Go.RowKit Go.Maps
set_option maxRecDepth 100000

theorem manyG_good {T : Gr → Int → Int → Gr × Int} {k : Nat} (hT : OpOk T k) {z : Int} {G : Gr} {b : List Int} (hW : Wf G) (hz : There G z) (hb : AllThere G b) (hl : G.nodes.length + k * b.length ≤ 9000000) : Grows G (manyG T z G b).1 (manyG T z G b).2 (k * b.length) := by
  cases b with
  | nil => exact ⟨hW, Le.refl _, hz, by simp [manyG], rfl⟩
  | cons x r =>
    rw [← manyN_all]
    have hr : AllThere G r := fun y hy => hb y (by simp [hy])
    have g := many_good hT hW (hb x (by simp)) hr (by simp at hl; have : k * r.length ≤ k * (r.length + 1) := Nat.mul_le_mul_left _ (by omega); omega) r.length (Nat.le_refl _)
    refine ⟨g.wf, g.le, g.there, ?_, g.ins⟩
    have := g.len
    have h2 : k * r.length ≤ k * (r.length + 1) := Nat.mul_le_mul_left _ (by omega)
    simp; omega
theorem there_lit {G : Gr} (hW : Wf G) {z : Int} (h : z = 0 ∨ z = 1) : There G z := by
  have := hW.pos
  unfold There IsLit
  rcases h with rfl | rfl <;> simp <;> omega
/-- A graph is as it was, where what turned is none of its blocks. -/
theorem Is.beside {w w' : World} {p : Pl} {G : Gr} {F : Nat → Prop} (h : Is w p G) (hk : Kept F w w') (hF : ∀ k, F k → ¬ p.has k) : Is w' p G := by
  have hb : ∀ k, p.has k → w'.heap[k]? = w.heap[k]? := fun k hp => hk.block k (h.has_lt hp) (fun hf => hF k hf hp)
  have own : ∀ {e size n : Nat} {v : Value} {xs : List Value}, w.ownsRow 0 e size v n xs → (∀ k, v.ownBlock = some k → p.has k) → w'.ownsRow 0 e size v n xs := by
    intro e size n v xs h hv
    refine ⟨h.1, ?_⟩
    rcases h.2 with h0 | ⟨g, cap, cur, rfl, hg', hh, r⟩
    · exact .inl h0
    · exact .inr ⟨g, cap, cur, rfl, hg', by rw [hb g (hv g rfl)]; exact hh, r⟩
  refine ⟨⟨by rw [hb p.b (.inl rfl)]; exact h.lay.box, own h.lay.nodes (fun k hk => .inr (.inl (by simp [Pl.nv, Value.ownBlock] at hk; exact hk.symm))), own h.lay.inputs (fun k hk => .inr (.inr (.inl hk)))⟩, ?_⟩
  have hm := h.map
  unfold MapIn at hm ⊢
  split
  · rename_i hH
    rw [if_pos hH] at hm
    obtain ⟨mb, D, e, ho, hD⟩ := hm
    exact ⟨mb, D, e, map_block ho (hb mb (.inr (.inr (.inr e)))), hD⟩
  · rename_i hH
    rw [if_neg hH] at hm; exact hm
theorem own_cap {w : World} {base e size n c : Nat} {a : Option Addr} {xs : List Value} (h : w.ownsRow base e size (.slice a n c) n xs) : n ≤ c := by
  rcases h.2 with ⟨h0, h1⟩ | ⟨g, cap, cur, hv, _, _, hn, _⟩
  · omega
  · simp at hv; obtain ⟨_, rfl⟩ := hv; exact hn
theorem own_far {w : World} {p : Pl} {G : Gr} (hI : Is w p G) {base T size n c : Nat} {a : Option Addr} {xs : List Value} (h : w.ownsRow base T size (.slice a n c) n xs) (h1 : T ≠ 133) (h2 : T ≠ 165) (h3 : T ≠ 3) : ∀ x, a = some x → ¬ p.has x.block := by
  intro x hx
  obtain ⟨cur, hh⟩ := own_type h (k := x.block) (by rw [hx]; rfl)
  exact hI.other hh h1 h2 h3
theorem kept_grown {w w' : World} {row : Option Nat} (h : w.grownBy w' row) : Kept (fun k => row = some k) w w' :=
  ⟨h.os, h.tape, h.output, h.size, fun k hk hn => h.block k hk (fun e => hn e.symm)⟩
theorem info_lit : (Tryz.prog.info? 66).map (fun i => (i.zero, i.size, i.bytes)) = some (some (.int .u32 0), 1, 4) := by kernel_rfl
theorem info_u32 : (Tryz.prog.info? 65).map (fun i => (i.zero, i.size, i.bytes)) = some (some (.int .u32 0), 1, 4) := by kernel_rfl
theorem row_news {w w' : World} {a : Option Addr} {n m : Nat} {z : List Int} (h : Row .u32 w a n z) (hm : m ≤ n) (hb : Below w.heap.size w w') : ∀ x, a = some x → ∀ (j : Nat) (u : Value), ((z.take m).map (Value.int .u32))[j]? = some u → w'.cell? (x.add j) = some u := by
  intro x hx j u hu
  have hj := (List.getElem?_eq_some_iff.1 hu).1
  have hl := h.len
  simp at hj
  obtain ⟨b, off, e, hlt, hc⟩ := h.at (by omega)
  rw [hx] at e
  have e := Option.some.inj e
  subst e
  rw [List.getElem?_map, List.getElem?_take, if_pos (by omega)] at hu
  have hz : z[j]? = some (z.getD j 0) := by simp [List.getD, show j < z.length by omega]
  rw [hz] at hu
  simp only [Option.map_some, Option.some.injEq] at hu
  rw [← hu, Addr.add_lit]
  exact stepc hb hlt (hc j (by omega))
theorem below_new2 {w w4 : World} {o1 o2 : Obj} (hg : ((w.alloc o1).alloc o2).grownBy w4 none) : Below w.heap.size w w4 :=
  (((Below.refl _ _).alloc (Nat.le_refl _) _).alloc (by simp) _).grown hg (by simp; omega) (fun _ h => by cases h)
theorem row_app {w : World} {base T m c : Nat} {a : Option Addr} {z : List Int} (h : w.ownsRow base T 1 (.slice a (m + 3) c) (m + 3) ((z.take m).map (Value.int .u32) ++ [.int .u32 0, .int .u32 0, .int .u32 0])) (hm : m ≤ 8 := by omega) : Row .u32 w a (m + 3) (z.take m ++ [0, 0, 0]) := by
  have e : (z.take m).map (Value.int .u32) ++ [.int .u32 0, .int .u32 0, .int .u32 0] = (z.take m ++ [0, 0, 0]).map (Value.int .u32) := by simp
  rw [e] at h
  exact Row.of_own h (by have := h.1; simpa using this) (by omega)
theorem below_new1 {w w4 : World} {o : Obj} (hg : (w.alloc o).grownBy w4 none) : Below w.heap.size w w4 :=
  ((Below.refl _ _).alloc (Nat.le_refl _) _).grown hg (by simp) (fun _ h => by cases h)
/-- A graph that a call has made for itself. -/
structure AtG (w0 : World) (B : Nat) (w : World) (p : Pl) (G : Gr) : Prop where
  is : Is w p G
  wf : Wf G
  b : p.b = B
  out : ∀ k, p.has k → w0.heap.size ≤ k
  below : Below w0.heap.size w0 w
  len : G.nodes.length ≤ 100000
theorem AtG.step {w0 w w2 : World} {B : Nat} {p : Pl} {G : Gr} (h : AtG w0 B w p G) (hb : Below w.heap.size w w2) : AtG w0 B w2 p G :=
  ⟨h.is.below hb, h.wf, h.b, h.out, nextw h.below hb, h.len⟩
theorem AtG.next {w0 w w2 : World} {B : Nat} {p p' : Pl} {G G' : Gr} (h : AtG w0 B w p G) (hS : Step p w p' w2 G') (hW : Wf G') (hl : G'.nodes.length ≤ 100000) : AtG w0 B w2 p' G' :=
  ⟨hS.is, hW, hS.b.trans h.b, fun k hk => by
    rcases hS.new k hk with h1 | h1
    · exact h.out k h1
    · exact Nat.le_trans h.below.size h1, h.below.trans (hS.kept.below h.out h.below.size), hl⟩
theorem AtG.new {F H : Bool} (w0 : World) {w : World} (h0 : Below w0.heap.size w0 w) :
    Calls Tryz.prog 99 #[.agg #[.bool F, .bool H]] w fun e w' => ∃ p, e = .returned (.pointer (some ⟨p.b, 0, none⟩)) ∧ AtG w0 p.b w' p (newG F H) :=
  (new_any F H w).mono fun e w' ⟨p, he, hI, hB, hout⟩ => ⟨p, he, hI, Wf_new F H, rfl, fun k hk => Nat.le_trans h0.size (hout k hk), nextw h0 hB, by simp [newG]⟩
theorem AtG.input {w0 w : World} {B : Nat} {p : Pl} {G G' : Gr} (h : AtG w0 B w p G) (hG : inputG G = G') {v : Int} (hv : 2 * (G.nodes.length : Int) = v) (hl : G.nodes.length ≤ 90000) :
    Calls Tryz.prog 104 #[.pointer (some ⟨B, 0, none⟩)] w fun e w' => e = .returned (.tuple #[.int .u32 v, .int .i64 0]) ∧ ∃ p', AtG w0 B w' p' G' := by
  subst hG
  have := Input_any h.is h.wf (by omega)
  rw [h.b] at this
  exact this.mono fun e w' ⟨he, p', hS⟩ => ⟨by rw [he, hv], p', h.next hS (Wf_inputG h.wf) (by rw [inputG_len]; omega)⟩
theorem AtG.many {f : FuncId} {T : Gr → Int → Int → Gr × Int} {z : Int} {k : Nat} (hF : ManyCall f T z) (hT : OpOk T k) (hk : k ≤ 3) (hz : z = 0 ∨ z = 1) {w0 w : World} {B : Nat} {p : Pl} {G : Gr} (h : AtG w0 B w p G) {a : Option Addr} {n cap : Nat} {l : List Int} (hs : Row .u32 w a n l) (hcap : n ≤ cap) (hap : ∀ x, a = some x → ¬ p.has x.block) (hl : AllThere G l) (hn : n ≤ 20) (h9 : G.nodes.length ≤ 90000) :
    Calls Tryz.prog f #[.pointer (some ⟨B, 0, none⟩), .slice a n cap] w fun e w' => e = .returned (.tuple #[.int .u32 (manyG T z G l).2, .int .i64 0]) ∧ ∃ p', AtG w0 B w' p' (manyG T z G l).1 := by
  have hlen := hs.len
  have hkk : k * l.length ≤ 3 * 20 := Nat.mul_le_mul hk (by omega)
  have g := manyG_good hT h.wf (there_lit h.wf hz) hl (by omega)
  have := hF w p G a n cap l h.is h.wf hs hcap hap hl (by omega)
  rw [h.b] at this
  exact this.mono fun e w' ⟨he, p', hS⟩ => ⟨he, p', h.next hS g.wf (by have := g.len; omega)⟩
/-- A call of two. -/
theorem AtG.two {f : FuncId} {T : Gr → Int → Int → Gr × Int} {z : Int} {k : Nat} (hF : ManyCall f T z) (hT : OpOk T k) (hk : k ≤ 3) (hz : z = 0 ∨ z = 1) {w0 w : World} {B : Nat} {p : Pl} {G : Gr} (h : AtG w0 B w p G) {x y : Int} {G' : Gr} {v : Int} (hr : manyG T z G [x, y] = (G', v)) (hx : There G x) (hy : There G y) (h9 : G.nodes.length ≤ 90000) :
    Calls Tryz.prog f #[.pointer (some ⟨B, 0, none⟩), .slice (some ⟨w.heap.size, 0, none⟩) 2 2] (w.alloc (.cells #[.int .u32 x, .int .u32 y] 66)) fun e w' => e = .returned (.tuple #[.int .u32 v, .int .i64 0]) ∧ ∃ p', AtG w0 B w' p' G' := by
  have hlt := fun k (hk : p.has k) => h.is.has_lt hk
  have := (h.step ((Below.refl _ _).alloc (Nat.le_refl _) (.cells #[.int .u32 x, .int .u32 y] 66))).many hF hT hk hz (row2 w x y _) (Nat.le_refl _) (by
    intro b hb hp
    have := hlt _ hp
    cases hb
    simp at this) (l := [x, y]) (by intro u hu; simp at hu; rcases hu with rfl | rfl <;> assumption) (by omega) h9
  rw [hr] at this
  exact this
theorem AtG.empty {f : FuncId} {T : Gr → Int → Int → Gr × Int} {z : Int} {k : Nat} (hF : ManyCall f T z) (hT : OpOk T k) (hk : k ≤ 3) (hz : z = 0 ∨ z = 1) {w0 w : World} {B : Nat} {p : Pl} {G : Gr} (h : AtG w0 B w p G) (h9 : G.nodes.length ≤ 90000) :
    Calls Tryz.prog f #[.pointer (some ⟨B, 0, none⟩), .slice none 0 0] w fun e w' => e = .returned (.tuple #[.int .u32 z, .int .i64 0]) ∧ ∃ p', AtG w0 B w' p' G :=
  h.many hF hT hk hz (a := none) (n := 0) (cap := 0) (l := []) ⟨rfl, by omega, .inl rfl⟩ (Nat.le_refl _) (by intro x hx; cases hx) (by intro x hx; cases hx) (by omega) h9
theorem AtG.gateOf {w0 w : World} {B : Nat} {p : Pl} {G : Gr} (h : AtG w0 B w p G) {j : Nat} (hj : j < G.nodes.length) {jj : Int} (hjj : (j : Int) = jj) {x y : Int} {gt : Bool} (hr : nodeAt G j = ⟨gt, x, y⟩) :
    Calls Tryz.prog 30 #[.pointer (some ⟨B, 0, none⟩), .int .i64 jj] w fun e w' => e = .returned (.tuple #[.int .u32 x, .int .u32 y, .bool gt]) ∧ AtG w0 B w' p G := by
  subst hjj
  have := Gate_any h.is h.wf (by have := h.len; omega) hj
  rw [h.b, hr] at this
  exact this.mono fun e w' ⟨he, hB⟩ => ⟨he, h.step hB⟩
/-- A row that the statement has made itself. -/
structure Mine (w0 w : World) (T : Nat) (v : Value) (n : Nat) (xs : List Value) : Prop where
  own : w.ownsRow w0.heap.size T 1 v n xs
  t1 : T ≠ 133
  t2 : T ≠ 165
  t3 : T ≠ 3
theorem Mine.step {w0 w w2 : World} {T : Nat} {v : Value} {n : Nat} {xs : List Value} (h : Mine w0 w T v n xs) (hb : Below w.heap.size w w2) : Mine w0 w2 T v n xs := ⟨own_below h.own hb, h.t1, h.t2, h.t3⟩
theorem Mine.next {w0 w w2 : World} {p : Pl} {G : Gr} {T : Nat} {v : Value} {n : Nat} {xs : List Value} (h : Mine w0 w T v n xs) (hI : Is w p G) (hk : Kept p.has w w2) : Mine w0 w2 T v n xs := ⟨own_beside hI h.own hk h.t1 h.t2 h.t3, h.t1, h.t2, h.t3⟩
theorem Mine.row {w0 w : World} {T : Nat} {a : Option Addr} {n c : Nat} {k : IntKind} {l : List Int} (h : Mine w0 w T (.slice a n c) n (l.map (Value.int k))) (hn : n ≤ 9223372036854775807) : Row k w a n l ∧ n ≤ c := ⟨Row.of_own h.own (by have := h.own.1; simpa using this) hn, own_cap h.own⟩
theorem Mine.far {w0 w : World} {p : Pl} {G : Gr} (hI : Is w p G) {T : Nat} {a : Option Addr} {n c : Nat} {xs : List Value} (h : Mine w0 w T (.slice a n c) n xs) : ∀ x, a = some x → ¬ p.has x.block := own_far hI h.own h.t1 h.t2 h.t3
/-- Behind an append to a row of another type. -/
theorem AtG.grown {w0 w w2 : World} {B : Nat} {p : Pl} {G : Gr} (h : AtG w0 B w p G) {T : Nat} {v : Value} {n : Nat} {xs : List Value} (hM : Mine w0 w T v n xs) (hg : w.grownBy w2 v.ownBlock) : AtG w0 B w2 p G :=
  ⟨h.is.beside (kept_grown hg) (fun k hk hp => by
    obtain ⟨cur, hh⟩ := own_type hM.own hk
    exact h.is.other hh hM.t1 hM.t2 hM.t3 hp), h.wf, h.b, h.out, h.below.grown hg h.below.size (fun k hk => own_ge hM.own k hk), h.len⟩
theorem AtG.inputs {w0 w : World} {B : Nat} {p : Pl} {G : Gr} (h : AtG w0 B w p G) :
    Calls Tryz.prog 125 #[.pointer (some ⟨B, 0, none⟩)] w fun e w' => ∃ (a : Option Addr) (cap : Nat), e = .returned (.slice a G.inputs.length cap) ∧ Below w.heap.size w w' := by
  have := Inputs_any h.is h.wf (by have := h.len; omega)
  rw [h.b] at this
  exact this
theorem AtG.raw {w0 w : World} {B : Nat} {p : Pl} {G : Gr} (h : AtG w0 B w p G) (h9 : G.nodes.length ≤ 90000) {a b : Int} (ha : There G a) (hb : There G b) :
    Calls Tryz.prog 73 #[.pointer (some ⟨B, 0, none⟩), .int .u32 a, .int .u32 b] w fun e w' => e = .returned (.tuple #[.int .u32 (gateG G a b).2, .int .i64 0]) ∧ ∃ p', AtG w0 B w' p' (gateG G a b).1 ∧ Step p w p' w' (gateG G a b).1 := by
  have g := gateG_good h.wf ha hb (by omega)
  have := Raw_any h.is h.wf (by omega) ha hb
  rw [h.b] at this
  exact this.mono fun e w' ⟨he, p', hS⟩ => ⟨he, p', h.next hS g.wf (by have := g.len; omega), hS⟩
/-- As 'AtG.many', with the step. -/
theorem AtG.manyS {f : FuncId} {T : Gr → Int → Int → Gr × Int} {z : Int} {k : Nat} (hF : ManyCall f T z) (hT : OpOk T k) (hk : k ≤ 3) (hz : z = 0 ∨ z = 1) {w0 w : World} {B : Nat} {p : Pl} {G : Gr} (h : AtG w0 B w p G) {T2 : Nat} {a : Option Addr} {n cap : Nat} {l : List Int} (hM : Mine w0 w T2 (.slice a n cap) n (l.map (Value.int .u32))) (hl : AllThere G l) (hn : n ≤ 20) (h9 : G.nodes.length ≤ 90000) :
    Calls Tryz.prog f #[.pointer (some ⟨B, 0, none⟩), .slice a n cap] w fun e w' => e = .returned (.tuple #[.int .u32 (manyG T z G l).2, .int .i64 0]) ∧ ∃ p', AtG w0 B w' p' (manyG T z G l).1 ∧ Step p w p' w' (manyG T z G l).1 := by
  obtain ⟨hs, hcap⟩ := hM.row (by omega)
  have hlen := hs.len
  have hkk : k * l.length ≤ 3 * 20 := Nat.mul_le_mul hk (by omega)
  have g := manyG_good hT h.wf (there_lit h.wf hz) hl (by omega)
  have := hF w p G a n cap l h.is h.wf hs hcap (hM.far h.is) hl (by omega)
  rw [h.b] at this
  exact this.mono fun e w' ⟨he, p', hS⟩ => ⟨he, p', h.next hS g.wf (by have := g.len; omega), hS⟩
/-- Gates among the first nodes. -/
def gatesTo (G : Gr) (j : Nat) : Nat := (G.nodes.take j).countP (·.gate)
theorem gatesTo_succ {G : Gr} {j : Nat} (h : j < G.nodes.length) : gatesTo G (j + 1) = gatesTo G j + if (nodeAt G j).gate then 1 else 0 := by
  unfold gatesTo nodeAt
  rw [List.take_add_one, List.countP_append]
  simp [List.getD, h, List.countP_cons]
theorem gatesTo_all {G : Gr} (hW : Wf G) : (gatesTo G G.nodes.length : Int) = G.nodes.length - 1 - G.inputs.length := by
  have := hW.cnt
  unfold gatesTo
  rw [List.take_length]; omega
theorem gatesTo_le (G : Gr) (j : Nat) : gatesTo G j ≤ G.nodes.length := by
  unfold gatesTo
  exact Nat.le_trans List.countP_le_length (by simp; omega)
theorem AtG.beside {w0 w w2 : World} {B : Nat} {p : Pl} {G : Gr} (h : AtG w0 B w p G) {F : Nat → Prop} (hk : Kept F w w2) (hF : ∀ k, F k → ¬ p.has k) (ho : ∀ k, F k → w0.heap.size ≤ k) : AtG w0 B w2 p G :=
  ⟨h.is.beside hk hF, h.wf, h.b, h.out, h.below.trans (hk.below ho h.below.size), h.len⟩
theorem Mine.beside {w0 w w2 : World} {T : Nat} {v : Value} {n : Nat} {xs : List Value} (h : Mine w0 w T v n xs) {F : Nat → Prop} (hk : Kept F w w2) (hF : ∀ k, v.ownBlock = some k → ¬ F k) : Mine w0 w2 T v n xs :=
  ⟨own_keptF h.own hk hF, h.t1, h.t2, h.t3⟩
theorem Mine.grown {w0 w w2 : World} {T T2 : Nat} {v v2 : Value} {n n2 : Nat} {xs xs2 : List Value} (h : Mine w0 w T v n xs) (h2 : Mine w0 w T2 v2 n2 xs2) (hT : T ≠ T2) (hg : w.grownBy w2 v2.ownBlock) : Mine w0 w2 T v n xs :=
  h.beside (kept_grown hg) (fun k e1 e2 => by
    obtain ⟨c1, q1⟩ := own_type h.own e1
    obtain ⟨c2, q2⟩ := own_type h2.own e2
    rw [q1] at q2
    simp at q2
    exact hT q2.2)
theorem AtG.inputS {w0 w : World} {B : Nat} {p : Pl} {G : Gr} (h : AtG w0 B w p G) (hl : G.nodes.length ≤ 90000) :
    Calls Tryz.prog 104 #[.pointer (some ⟨B, 0, none⟩)] w fun e w' => e = .returned (.tuple #[.int .u32 (2 * (G.nodes.length : Int)), .int .i64 0]) ∧ ∃ p', AtG w0 B w' p' (inputG G) ∧ Step p w p' w' (inputG G) := by
  have := Input_any h.is h.wf (by omega)
  rw [h.b] at this
  exact this.mono fun e w' ⟨he, p', hS⟩ => ⟨he, p', h.next hS (Wf_inputG h.wf) (by rw [inputG_len]; omega), hS⟩
theorem Mine.lt {w0 w : World} {T : Nat} {v : Value} {n : Nat} {xs : List Value} (h : Mine w0 w T v n xs) : ∀ k, v.ownBlock = some k → k < w.heap.size := fun k hk => by
  obtain ⟨cur, hh⟩ := own_type h.own hk
  exact (Array.getElem?_eq_some_iff.1 hh).1
theorem AtG.nodes {w0 w : World} {B : Nat} {p : Pl} {G : Gr} (h : AtG w0 B w p G) :
    Calls Tryz.prog 21 #[.pointer (some ⟨B, 0, none⟩)] w fun e w' => e = .returned (.int .i64 G.nodes.length) ∧ w = w' := by
  have := nodes_any h.is.lay h.wf.pos
  rw [h.b] at this
  exact this
theorem AtG.gates {w0 w : World} {B : Nat} {p : Pl} {G : Gr} (h : AtG w0 B w p G) :
    Calls Tryz.prog 22 #[.pointer (some ⟨B, 0, none⟩)] w fun e w' => e = .returned (.int .i64 ((G.nodes.length : Int) - 1 - G.inputs.length)) ∧ Below w.heap.size w w' := by
  have hc := h.wf.cnt
  have := gates_any h.is.lay h.wf.pos (by omega) (by have := h.len; omega)
  rw [h.b] at this
  exact this
theorem AtG.gateAt {w0 w : World} {B : Nat} {p : Pl} {G : Gr} (h : AtG w0 B w p G) {j : Nat} (hj : j < G.nodes.length) :
    Calls Tryz.prog 30 #[.pointer (some ⟨B, 0, none⟩), .int .i64 j] w fun e w' => e = .returned (.tuple #[.int .u32 (nodeAt G j).a, .int .u32 (nodeAt G j).b, .bool (nodeAt G j).gate]) ∧ Below w.heap.size w w' := by
  have := Gate_any h.is h.wf (by have := h.len; omega) hj
  rw [h.b] at this
  exact this
/-- An And of two, with a row beside it. -/
theorem AtG.andS {w0 w : World} {B : Nat} {p : Pl} {G : Gr} (h : AtG w0 B w p G) {T : Nat} {v : Value} {m : Nat} {xs : List Value} (hM : Mine w0 w T v m xs) {x y : Int} {G' : Gr} {z : Int} (hr : andG G x y = (G', z)) (hx : There G x) (hy : There G y) (h9 : G.nodes.length ≤ 90000) :
    Calls Tryz.prog 69 #[.pointer (some ⟨B, 0, none⟩), .slice (some ⟨w.heap.size, 0, none⟩) 2 2] (w.alloc (.cells #[.int .u32 x, .int .u32 y] 66)) fun e w' => e = .returned (.tuple #[.int .u32 z, .int .i64 0]) ∧ ∃ p', AtG w0 B w' p' G' ∧ Mine w0 w' T v m xs := by
  have hlt := fun k (hk : p.has k) => h.is.has_lt hk
  have hb := (Below.refl w.heap.size w).alloc (Nat.le_refl _) (.cells #[.int .u32 x, .int .u32 y] 66)
  have h1 := h.step hb
  have hl : AllThere G [x, y] := by intro u hu; simp at hu; rcases hu with rfl | rfl <;> assumption
  have g := andG_good h.wf hx hy (by omega)
  have := And_any _ p G _ 2 2 [x, y] h1.is h1.wf (row2 w x y _) (Nat.le_refl _) (by
    intro b hb hp
    have := hlt _ hp
    cases hb
    simp at this) hl (by omega)
  rw [h.b, show manyG andG 1 G [x, y] = andG G x y from rfl, hr] at this
  rw [hr] at g
  exact this.mono fun e w' ⟨he, p', hS⟩ => ⟨he, p', h1.next hS g.wf (by have := g.len; simp only at this; omega), (hM.step hb).next h1.is hS.kept⟩
end Go.Proofs.YtafoohdndlhbnaaGreatDoor
end

section
namespace Go.Proofs.YtafoohdndlhbnaaGreatDoor
open Go.RowKit Go.Maps
set_option maxRecDepth 100000

/-- A row of literals. -/
structure LRow (w : World) (a : Option Addr) (n c : Nat) (l : List Int) : Prop where
  len : l.length = n
  own : w.ownsRow 0 66 1 (.slice a n c) n (l.map (Value.int .u32))
theorem LRow.below {w w' : World} {a : Option Addr} {n c : Nat} {l : List Int} (h : LRow w a n c l) (hb : Below w.heap.size w w') : LRow w' a n c l := ⟨h.len, own_below h.own hb⟩
theorem own_maxLen {w : World} {base e size n : Nat} {v : Value} {xs : List Value} (h : w.ownsRow base e size v n xs) : n ≤ 9223372036854775807 := by
  rcases h.2 with ⟨_, h0⟩ | ⟨g, cap, cur, _, _, _, h1, h2, _⟩
  · omega
  · unfold maxLen at h2; omega
theorem LRow.row {w : World} {a : Option Addr} {n c : Nat} {l : List Int} (h : LRow w a n c l) : Row .u32 w a n l := Row.of_own h.own h.len (own_maxLen h.own)
theorem LRow.cap {w : World} {a : Option Addr} {n c : Nat} {l : List Int} (h : LRow w a n c l) : n ≤ c := own_cap h.own
theorem LRow.keptF {F : Nat → Prop} {w w' : World} {a : Option Addr} {n c : Nat} {l : List Int} (h : LRow w a n c l) (hk : Kept F w w') (hF : ∀ k cur fz, F k → w.heap[k]? ≠ some (.cells cur 66 fz)) : LRow w' a n c l :=
  ⟨h.len, own_keptF h.own hk (fun k e hf => by obtain ⟨cur, hh⟩ := own_type h.own e; exact hF k cur _ hf hh)⟩

/-- A bus, as it lies in a row. -/
structure BV where
  name : ByteArray
  a : Option Addr
  n : Nat
  c : Nat
def bvc (k : BV) : List Value := [.string k.name, .slice k.a k.n k.c]
def bvCells (K : List BV) : List Value := K.flatMap bvc
theorem bvCells_push (K : List BV) (k : BV) : bvCells (K ++ [k]) = bvCells K ++ [.string k.name, .slice k.a k.n k.c] := by simp [bvCells, bvc]
theorem bvCells_len (K : List BV) : (bvCells K).length = K.length * 2 := by
  induction K with
  | nil => rfl
  | cons k K ih => rw [show bvCells (k :: K) = bvc k ++ bvCells K from rfl, List.length_append, ih]; simp [bvc]; omega
theorem bvCells_at (K : List BV) (i : Nat) (k : BV) (h : K[i]? = some k) : (bvCells K)[2 * i]? = some (.string k.name) ∧ (bvCells K)[2 * i + 1]? = some (.slice k.a k.n k.c) := by
  induction K generalizing i with
  | nil => simp at h
  | cons m K ih =>
    rw [show bvCells (m :: K) = bvc m ++ bvCells K from rfl]
    match i with
    | 0 => simp at h; subst h; exact ⟨rfl, rfl⟩
    | i + 1 =>
      have := ih i (by simpa using h)
      rw [List.getElem?_append_right (by simp [bvc]; omega), List.getElem?_append_right (by simp [bvc]; omega)]
      rw [show 2 * (i + 1) - (bvc m).length = 2 * i by simp [bvc]; omega, show 2 * (i + 1) + 1 - (bvc m).length = 2 * i + 1 by simp [bvc]; omega]
      exact this
theorem bv_one (K : List BV) : ∀ u ∈ bvCells K, u.oneCell' = true := by
  intro u hu
  obtain ⟨n, -, hn⟩ := List.mem_flatMap.1 hu
  simp [bvc] at hn
  rcases hn with rfl | rfl <;> rfl

structure BusAt (w : World) (v : Value) (L : List Bus) (K : List BV) : Prop where
  own : w.ownsRow 0 71 2 v L.length (bvCells K)
  len : K.length = L.length
  row : ∀ (i : Nat) (k : BV) (b : Bus), K[i]? = some k → L[i]? = some b → k.name = b.name ∧ LRow w k.a k.n k.c b.lits
def BusRow (w : World) (v : Value) (L : List Bus) : Prop := ∃ K, BusAt w v L K
theorem BusRow.nil (w : World) : BusRow w (.slice none 0 0) [] := ⟨[], ⟨rfl, .inl ⟨rfl, rfl⟩⟩, rfl, fun i k b h => by simp at h⟩
theorem BusAt.below {w w' : World} {v : Value} {L : List Bus} {K : List BV} (h : BusAt w v L K) (hb : Below w.heap.size w w') : BusAt w' v L K :=
  ⟨own_below h.own hb, h.len, fun i k b e1 e2 => ⟨(h.row i k b e1 e2).1, (h.row i k b e1 e2).2.below hb⟩⟩
theorem BusRow.below {w w' : World} {v : Value} {L : List Bus} (h : BusRow w v L) (hb : Below w.heap.size w w') : BusRow w' v L := let ⟨K, hK⟩ := h; ⟨K, hK.below hb⟩
/-- F holds no block of literals. -/
def NoLits (w : World) (F : Nat → Prop) : Prop := ∀ k cur fz, F k → w.heap[k]? ≠ some (.cells cur 66 fz)
theorem BusAt.keptF {F : Nat → Prop} {w w' : World} {v : Value} {L : List Bus} {K : List BV} (h : BusAt w v L K) (hk : Kept F w w') (hn : ∀ k, v.ownBlock = some k → ¬ F k) (hF : NoLits w F) : BusAt w' v L K :=
  ⟨own_keptF h.own hk hn, h.len, fun i k b e1 e2 => ⟨(h.row i k b e1 e2).1, (h.row i k b e1 e2).2.keptF hk hF⟩⟩
theorem BusRow.keptF {F : Nat → Prop} {w w' : World} {v : Value} {L : List Bus} (h : BusRow w v L) (hk : Kept F w w') (hn : ∀ k, v.ownBlock = some k → ¬ F k) (hF : NoLits w F) : BusRow w' v L := let ⟨K, hK⟩ := h; ⟨K, hK.keptF hk hn hF⟩
/-- The bus at a place. -/
theorem BusRow.at {w : World} {a : Option Addr} {n c : Nat} {L : List Bus} (h : BusRow w (.slice a n c) L) {j : Nat} (hj : j < L.length) :
    ∃ (g : Nat) (la : Option Addr) (lc : Nat), a = some ⟨g, 0, none⟩ ∧ g < w.heap.size ∧ w.cell? ⟨g, j * 2, none⟩ = some (.string L[j].name) ∧ w.cell? ⟨g, j * 2 + 1, none⟩ = some (.slice la L[j].lits.length lc) ∧ LRow w la L[j].lits.length lc L[j].lits := by
  obtain ⟨K, hK⟩ := h
  obtain ⟨g, cap, e⟩ := own_form hK.own (by omega)
  have ho := hK.own
  rw [e] at ho
  have hl := bvCells_len K
  have hjK : j < K.length := by rw [hK.len]; exact hj
  obtain ⟨e0, e1⟩ := bvCells_at K j K[j] (List.getElem?_eq_getElem hjK)
  obtain ⟨n1, n2⟩ := hK.row j K[j] L[j] (List.getElem?_eq_getElem hjK) (List.getElem?_eq_getElem hj)
  have hn := n2.len
  simp only [Value.slice.injEq] at e
  refine ⟨g, K[j].a, K[j].c, e.1, own_lt ho, ?_, ?_, ?_⟩
  · rw [ho.cellAt _ (by omega), Nat.mul_comm j 2, e0, n1]
  · rw [ho.cellAt _ (by omega), Nat.mul_comm j 2, e1, hn]
  · rw [hn]; exact n2
theorem BusRow.slice {w : World} {v : Value} {L : List Bus} (h : BusRow w v L) : ∃ a c, v = .slice a L.length c := by
  obtain ⟨K, hK⟩ := h
  exact own_slice hK.own

def rgc (r : Rg) : List Value := [.int .u32 r.q, .int .u32 r.d, .int .u32 r.en, .bool r.init]
def rgCells (R : List Rg) : List Value := R.flatMap rgc
theorem rgCells_push (R : List Rg) (r : Rg) : rgCells (R ++ [r]) = rgCells R ++ [.int .u32 r.q, .int .u32 r.d, .int .u32 r.en, .bool r.init] := by simp [rgCells, rgc]
theorem rgCells_len (R : List Rg) : (rgCells R).length = R.length * 4 := by
  induction R with
  | nil => rfl
  | cons k K ih => rw [show rgCells (k :: K) = rgc k ++ rgCells K from rfl, List.length_append, ih]; simp [rgc]; omega
theorem rgCells_at (R : List Rg) (i : Nat) (r : Rg) (h : R[i]? = some r) : (rgCells R)[4 * i]? = some (.int .u32 r.q) ∧ (rgCells R)[4 * i + 1]? = some (.int .u32 r.d) ∧ (rgCells R)[4 * i + 2]? = some (.int .u32 r.en) ∧ (rgCells R)[4 * i + 3]? = some (.bool r.init) := by
  induction R generalizing i with
  | nil => simp at h
  | cons m R ih =>
    rw [show rgCells (m :: R) = rgc m ++ rgCells R from rfl]
    match i with
    | 0 => simp at h; subst h; exact ⟨rfl, rfl, rfl, rfl⟩
    | i + 1 =>
      have := ih i (by simpa using h)
      rw [List.getElem?_append_right (by simp [rgc]; omega), List.getElem?_append_right (by simp [rgc]; omega), List.getElem?_append_right (by simp [rgc]; omega), List.getElem?_append_right (by simp [rgc]; omega)]
      rw [show 4 * (i + 1) - (rgc m).length = 4 * i by simp [rgc]; omega, show 4 * (i + 1) + 1 - (rgc m).length = 4 * i + 1 by simp [rgc]; omega, show 4 * (i + 1) + 2 - (rgc m).length = 4 * i + 2 by simp [rgc]; omega, show 4 * (i + 1) + 3 - (rgc m).length = 4 * i + 3 by simp [rgc]; omega]
      exact this
theorem rg_one (R : List Rg) : ∀ u ∈ rgCells R, u.oneCell' = true := by
  intro u hu
  obtain ⟨n, -, hn⟩ := List.mem_flatMap.1 hu
  simp [rgc] at hn
  rcases hn with rfl | rfl | rfl | rfl <;> rfl
def RegRow (w : World) (v : Value) (R : List Rg) : Prop := w.ownsRow 0 68 4 v R.length (rgCells R)
theorem RegRow.at {w : World} {a : Option Addr} {n c : Nat} {R : List Rg} (h : RegRow w (.slice a n c) R) {j : Nat} (hj : j < R.length) :
    ∃ g : Nat, a = some ⟨g, 0, none⟩ ∧ g < w.heap.size ∧ w.cell? ⟨g, j * 4, none⟩ = some (.int .u32 R[j].q) ∧ w.cell? ⟨g, j * 4 + 1, none⟩ = some (.int .u32 R[j].d) ∧ w.cell? ⟨g, j * 4 + 2, none⟩ = some (.int .u32 R[j].en) ∧ w.cell? ⟨g, j * 4 + 3, none⟩ = some (.bool R[j].init) := by
  obtain ⟨g, cap, e⟩ := own_form h (by omega)
  unfold RegRow at h
  rw [e] at h
  have hl := rgCells_len R
  obtain ⟨e0, e1, e2, e3⟩ := rgCells_at R j R[j] (List.getElem?_eq_getElem hj)
  simp only [Value.slice.injEq] at e
  refine ⟨g, e.1, own_lt h, ?_, ?_, ?_, ?_⟩
  · rw [h.cellAt _ (by omega), Nat.mul_comm j 4, e0]
  · rw [h.cellAt _ (by omega), Nat.mul_comm j 4, e1]
  · rw [h.cellAt _ (by omega), Nat.mul_comm j 4, e2]
  · rw [h.cellAt _ (by omega), Nat.mul_comm j 4, e3]

/-- A netlist's place. -/
structure NPl where
  b : Nat
  g : Pl
  iv : Value
  rv : Value
  ov : Value
def NPl.has (q : NPl) (k : Nat) : Prop := k = q.b ∨ q.g.has k ∨ q.iv.ownBlock = some k ∨ q.rv.ownBlock = some k ∨ q.ov.ownBlock = some k
def netBox (q : NPl) (s : ByteArray) : Obj := .cells #[.pointer (some ⟨q.g.b, 0, none⟩), .string s, q.iv, q.rv, q.ov] 61 (0, 0)

structure NetIs (w : World) (q : NPl) (N : Nt) : Prop where
  box : w.heap[q.b]? = some (netBox q N.name)
  g : Is w q.g N.g
  ins : BusRow w q.iv N.ins
  regs : RegRow w q.rv N.regs
  outs : BusRow w q.ov N.outs
  apart : ∀ k, q.iv.ownBlock = some k → q.ov.ownBlock ≠ some k

theorem NetIs.lt {w : World} {q : NPl} {N : Nt} (h : NetIs w q N) : q.b < w.heap.size := (Array.getElem?_eq_some_iff.1 h.box).1
theorem BusRow.type {w : World} {v : Value} {L : List Bus} (h : BusRow w v L) {k : Nat} (hk : v.ownBlock = some k) : ∃ cur, w.heap[k]? = some (.cells cur 71 (0, 0)) := by
  obtain ⟨K, hK⟩ := h
  exact own_type hK.own hk
theorem NetIs.has_lt {w : World} {q : NPl} {N : Nt} (h : NetIs w q N) {k : Nat} (hk : q.has k) : k < w.heap.size := by
  rcases hk with rfl | hk | hk | hk | hk
  · exact h.lt
  · exact h.g.has_lt hk
  · obtain ⟨c, hc⟩ := h.ins.type hk; exact (Array.getElem?_eq_some_iff.1 hc).1
  · obtain ⟨c, hc⟩ := own_type h.regs hk; exact (Array.getElem?_eq_some_iff.1 hc).1
  · obtain ⟨c, hc⟩ := h.outs.type hk; exact (Array.getElem?_eq_some_iff.1 hc).1
/-- A row of another type lies elsewhere. -/
theorem NetIs.other {w : World} {q : NPl} {N : Nt} (h : NetIs w q N) {k T : Nat} {cur : Array Value} {fz : Nat × Nat} (hk : w.heap[k]? = some (.cells cur T fz)) (h1 : T ≠ 133) (h2 : T ≠ 165) (h3 : T ≠ 3) (h4 : T ≠ 61) (h5 : T ≠ 71) (h6 : T ≠ 68) : ¬ q.has k := by
  intro hp
  rcases hp with rfl | hp | hp | hp | hp
  · rw [h.box] at hk; simp [netBox] at hk; exact h4 hk.2.1.symm
  · exact h.g.other hk h1 h2 h3 hp
  · obtain ⟨c, hc⟩ := h.ins.type hp; rw [hc] at hk; simp at hk; exact h5 hk.2.1.symm
  · obtain ⟨c, hc⟩ := own_type h.regs hp; rw [hc] at hk; simp at hk; exact h6 hk.2.1.symm
  · obtain ⟨c, hc⟩ := h.outs.type hp; rw [hc] at hk; simp at hk; exact h5 hk.2.1.symm
theorem NetIs.noLits {w : World} {q : NPl} {N : Nt} (h : NetIs w q N) : NoLits w q.has := fun _ _ _ hp hk => h.other hk (by decide) (by decide) (by decide) (by decide) (by decide) (by decide) hp
/-- The graph's blocks are none of the netlist's own. -/
theorem NetIs.gFar {w : World} {q : NPl} {N : Nt} (h : NetIs w q N) {k : Nat} (hk : q.g.has k) : k ≠ q.b ∧ q.iv.ownBlock ≠ some k ∧ q.rv.ownBlock ≠ some k ∧ q.ov.ownBlock ≠ some k := by
  refine ⟨?_, ?_, ?_, ?_⟩
  · rintro rfl; exact h.g.other h.box (by decide) (by decide) (by decide) hk
  · intro e; obtain ⟨c, hc⟩ := h.ins.type e; exact h.g.other hc (by decide) (by decide) (by decide) hk
  · intro e; obtain ⟨c, hc⟩ := own_type h.regs e; exact h.g.other hc (by decide) (by decide) (by decide) hk
  · intro e; obtain ⟨c, hc⟩ := h.outs.type e; exact h.g.other hc (by decide) (by decide) (by decide) hk
theorem NetIs.bFar {w : World} {q : NPl} {N : Nt} (h : NetIs w q N) : q.iv.ownBlock ≠ some q.b ∧ q.rv.ownBlock ≠ some q.b ∧ q.ov.ownBlock ≠ some q.b := by
  have hb := h.box
  refine ⟨?_, ?_, ?_⟩
  · intro e; obtain ⟨c, hc⟩ := h.ins.type e; rw [hc] at hb; simp [netBox] at hb
  · intro e; obtain ⟨c, hc⟩ := own_type h.regs e; rw [hc] at hb; simp [netBox] at hb
  · intro e; obtain ⟨c, hc⟩ := h.outs.type e; rw [hc] at hb; simp [netBox] at hb
theorem NetIs.rFar {w : World} {q : NPl} {N : Nt} (h : NetIs w q N) {k : Nat} (hk : q.rv.ownBlock = some k) : q.iv.ownBlock ≠ some k ∧ q.ov.ownBlock ≠ some k := by
  obtain ⟨c, hc⟩ := own_type h.regs hk
  refine ⟨?_, ?_⟩
  · intro e; obtain ⟨d, hd⟩ := h.ins.type e; rw [hc] at hd; simp at hd
  · intro e; obtain ⟨d, hd⟩ := h.outs.type e; rw [hc] at hd; simp at hd

theorem NetIs.below {w w' : World} {q : NPl} {N : Nt} (h : NetIs w q N) (hb : Below w.heap.size w w') : NetIs w' q N :=
  ⟨(hb.block _ h.lt).trans h.box, h.g.below hb, h.ins.below hb, own_below h.regs hb, h.outs.below hb, h.apart⟩
/-- As it was, where what turned is none of its blocks, and none of literals. -/
theorem NetIs.beside {w w' : World} {q : NPl} {N : Nt} {F : Nat → Prop} (h : NetIs w q N) (hk : Kept F w w') (hF : ∀ k, F k → ¬ q.has k) (hL : NoLits w F) : NetIs w' q N :=
  ⟨(hk.block _ h.lt (fun hf => hF _ hf (.inl rfl))).trans h.box, h.g.beside hk (fun k hf hp => hF k hf (.inr (.inl hp))),
   h.ins.keptF hk (fun k e hf => hF k hf (.inr (.inr (.inl e)))) hL, own_keptF h.regs hk (fun k e hf => hF k hf (.inr (.inr (.inr (.inl e))))), h.outs.keptF hk (fun k e hf => hF k hf (.inr (.inr (.inr (.inr e))))) hL, h.apart⟩

/-- One step on: the netlist is N' now; the rest is as it was. -/
structure NStep (q : NPl) (w : World) (q' : NPl) (w' : World) (N' : Nt) : Prop where
  is : NetIs w' q' N'
  kept : Kept q.has w w'
  b : q'.b = q.b
  gb : q'.g.b = q.g.b
  new : ∀ k, q'.has k → q.has k ∨ w.heap.size ≤ k
theorem NStep.refl {q : NPl} {w : World} {N : Nt} (h : NetIs w q N) : NStep q w q w N := ⟨h, Kept.refl _ _, rfl, rfl, fun _ h => .inl h⟩
theorem NStep.of_below {q : NPl} {w w' : World} {N : Nt} (h : NetIs w q N) (hb : Below w.heap.size w w') : NStep q w q w' N := ⟨h.below hb, Kept.of_below hb, rfl, rfl, fun _ h => .inl h⟩
theorem NStep.trans {q q1 q2 : NPl} {w w1 w2 : World} {N1 N2 : Nt} (h : NStep q w q1 w1 N1) (k : NStep q1 w1 q2 w2 N2) : NStep q w q2 w2 N2 :=
  ⟨k.is, h.kept.trans k.kept h.new, k.b.trans h.b, k.gb.trans h.gb, fun x hx => by
    rcases k.new x hx with h1 | h1
    · exact h.new x h1
    · exact .inr (Nat.le_trans h.kept.size h1)⟩
theorem NStep.then {q q1 : NPl} {w w1 w2 : World} {N1 : Nt} (h : NStep q w q1 w1 N1) (hb : Below w1.heap.size w1 w2) : NStep q w q1 w2 N1 := h.trans (NStep.of_below h.is hb)
theorem NStep.front {q q1 : NPl} {w w1 w2 : World} {N N1 : Nt} (hN : NetIs w q N) (hb : Below w.heap.size w w1) (h : NStep q w1 q1 w2 N1) : NStep q w q1 w2 N1 := (NStep.of_below hN hb).trans h
/-- The graph grows. -/
theorem NetIs.grow {w w' : World} {q : NPl} {N : Nt} {p' : Pl} {G' : Gr} (h : NetIs w q N) (hs : Step q.g w p' w' G') : NStep q w { q with g := p' } w' { N with g := G' } := by
  have hF : NoLits w q.g.has := fun k c fz hp => h.noLits k c fz (.inr (.inl hp))
  refine ⟨⟨?_, hs.is, h.ins.keptF hs.kept (fun k e hp => (h.gFar hp).2.1 e) hF, own_keptF h.regs hs.kept (fun k e hp => (h.gFar hp).2.2.1 e), h.outs.keptF hs.kept (fun k e hp => (h.gFar hp).2.2.2 e) hF, h.apart⟩, ?_, rfl, hs.b, ?_⟩
  · have := (hs.kept.block _ h.lt (fun hp => (h.gFar hp).1 rfl)).trans h.box
    unfold netBox at this ⊢
    simp only [hs.b]; exact this
  · exact ⟨hs.kept.os, hs.kept.tape, hs.kept.output, hs.kept.size, fun k hk hn => hs.kept.block k hk (fun hp => hn (.inr (.inl hp)))⟩
  · intro k hk
    rcases hk with hk | hk | hk | hk | hk
    · exact .inl (.inl hk)
    · rcases hs.new k hk with h1 | h1
      · exact .inl (.inr (.inl h1))
      · exact .inr h1
    · exact .inl (.inr (.inr (.inl hk)))
    · exact .inl (.inr (.inr (.inr (.inl hk))))
    · exact .inl (.inr (.inr (.inr (.inr hk))))
/-- The cells of the netlist's own struct. -/
theorem NetIs.cells {w : World} {q : NPl} {N : Nt} (h : NetIs w q N) :
    ∃ (ia : Option Addr) (ic : Nat) (ra : Option Addr) (rc : Nat) (oa : Option Addr) (oc : Nat), q.iv = .slice ia N.ins.length ic ∧ q.rv = .slice ra N.regs.length rc ∧ q.ov = .slice oa N.outs.length oc ∧
      w.cell? ⟨q.b, 0, none⟩ = some (.pointer (some ⟨q.g.b, 0, none⟩)) ∧ w.cell? ⟨q.b, 1, none⟩ = some (.string N.name) ∧ w.cell? ⟨q.b, 2, none⟩ = some (.slice ia N.ins.length ic) ∧ w.cell? ⟨q.b, 3, none⟩ = some (.slice ra N.regs.length rc) ∧ w.cell? ⟨q.b, 4, none⟩ = some (.slice oa N.outs.length oc)
      ∧ ∀ o, w.frozen? ⟨q.b, o, none⟩ = false := by
  have hb := h.box
  obtain ⟨ia, ic, e1⟩ := h.ins.slice
  obtain ⟨ra, rc, e2⟩ := own_slice h.regs
  obtain ⟨oa, oc, e3⟩ := h.outs.slice
  refine ⟨ia, ic, ra, rc, oa, oc, e1, e2, e3, ?_, ?_, ?_, ?_, ?_, fun o => ?_⟩ <;> simp [World.cell?, World.frozen?, hb, netBox, e1, e2, e3]
end Go.Proofs.YtafoohdndlhbnaaGreatDoor
end
