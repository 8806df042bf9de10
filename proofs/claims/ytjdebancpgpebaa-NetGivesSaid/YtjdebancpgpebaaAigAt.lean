/-
  A graph that a call has made for itself, with its calls; rows that a call has made itself.
-/
import Derived.Test.YtjdebancpgpebaaAigI
import Derived.Test.YtjdebancpgpebaaAigJ
import Derived.Test.YtjdebancpgpebaaAigK
import Derived.Test.YtjdebancpgpebaaAigL
import Derived.ArgAppend
namespace Go.Proofs.Ytjdebancpgpebaa
open Go.RowKit Go.Maps
set_option maxRecDepth 100000

theorem manyG_good {T : Gr → Int → Int → Gr × Int} {k : Nat} (hT : OpOk T k) {z : Int} {G : Gr} {b : List Int} (hW : Wf G) (hz : There G z) (hb : AllThere G b) (hl : G.nodes.length + k * b.length ≤ 9000000) : Grows G (manyG T z G b).1 (manyG T z G b).2 (k * b.length) := by
  cases b with
  | nil => exact ⟨hW, Le.refl _, hz, by simp [manyG], rfl⟩
  | cons x r =>
    rw [← manyN_all]
    have hr : AllThere G r := fun y hy => hb y (by simp [hy])
    have g := many_good hT hW (hb x (by simp)) hr (by simp at hl; have : k * r.length ≤ k * (r.length + 1) := Nat.mul_le_mul_left _ (by omega); omega) r.length (Nat.le_refl _)
    refine ⟨g.wf, g.le, g.there, ?_, g.ins⟩
    have := g.len
    have h2 : k * r.length ≤ k * (r.length + 1) := Nat.mul_le_mul_left _ (by omega)
    simp; omega
theorem there_lit {G : Gr} (hW : Wf G) {z : Int} (h : z = 0 ∨ z = 1) : There G z := by
  have := hW.pos
  unfold There IsLit
  rcases h with rfl | rfl <;> simp <;> omega
/-- A graph is as it was, where what turned is none of its blocks. -/
theorem Is.beside {w w' : World} {p : Pl} {G : Gr} {F : Nat → Prop} (h : Is w p G) (hk : Kept F w w') (hF : ∀ k, F k → ¬ p.has k) : Is w' p G := by
  have hb : ∀ k, p.has k → w'.heap[k]? = w.heap[k]? := fun k hp => hk.block k (h.has_lt hp) (fun hf => hF k hf hp)
  have own : ∀ {e size n : Nat} {v : Value} {xs : List Value}, w.ownsRow 0 e size v n xs → (∀ k, v.ownBlock = some k → p.has k) → w'.ownsRow 0 e size v n xs := by
    intro e size n v xs h hv
    refine ⟨h.1, ?_⟩
    rcases h.2 with h0 | ⟨g, cap, cur, rfl, hg', hh, r⟩
    · exact .inl h0
    · exact .inr ⟨g, cap, cur, rfl, hg', by rw [hb g (hv g rfl)]; exact hh, r⟩
  refine ⟨⟨by rw [hb p.b (.inl rfl)]; exact h.lay.box, own h.lay.nodes (fun k hk => .inr (.inl (by simp [Pl.nv, Value.ownBlock] at hk; exact hk.symm))), own h.lay.inputs (fun k hk => .inr (.inr (.inl hk)))⟩, ?_⟩
  have hm := h.map
  unfold MapIn at hm ⊢
  split
  · rename_i hH
    rw [if_pos hH] at hm
    obtain ⟨mb, D, e, ho, hD⟩ := hm
    exact ⟨mb, D, e, map_block ho (hb mb (.inr (.inr (.inr e)))), hD⟩
  · rename_i hH
    rw [if_neg hH] at hm; exact hm
theorem own_cap {w : World} {base e size n c : Nat} {a : Option Addr} {xs : List Value} (h : w.ownsRow base e size (.slice a n c) n xs) : n ≤ c := by
  rcases h.2 with ⟨h0, h1⟩ | ⟨g, cap, cur, hv, _, _, hn, _⟩
  · omega
  · simp at hv; obtain ⟨_, rfl⟩ := hv; exact hn
theorem own_far {w : World} {p : Pl} {G : Gr} (hI : Is w p G) {base T size n c : Nat} {a : Option Addr} {xs : List Value} (h : w.ownsRow base T size (.slice a n c) n xs) (h1 : T ≠ 92) (h2 : T ≠ 98) (h3 : T ≠ 3) : ∀ x, a = some x → ¬ p.has x.block := by
  intro x hx
  obtain ⟨cur, hh⟩ := own_type h (k := x.block) (by rw [hx]; rfl)
  exact hI.other hh h1 h2 h3
theorem kept_grown {w w' : World} {row : Option Nat} (h : w.grownBy w' row) : Kept (fun k => row = some k) w w' :=
  ⟨h.os, h.tape, h.output, h.size, fun k hk hn => h.block k hk (fun e => hn e.symm)⟩
theorem info_lit : (Try.prog.info? 50).map (fun i => (i.zero, i.size, i.bytes)) = some (some (.int .u32 0), 1, 4) := by kernel_rfl
theorem info_u32 : (Try.prog.info? 34).map (fun i => (i.zero, i.size, i.bytes)) = some (some (.int .u32 0), 1, 4) := by kernel_rfl
theorem row_news {w w' : World} {a : Option Addr} {n m : Nat} {z : List Int} (h : Row .u32 w a n z) (hm : m ≤ n) (hb : Below w.heap.size w w') : ∀ x, a = some x → ∀ (j : Nat) (u : Value), ((z.take m).map (Value.int .u32))[j]? = some u → w'.cell? (x.add j) = some u := by
  intro x hx j u hu
  have hj := (List.getElem?_eq_some_iff.1 hu).1
  have hl := h.len
  simp at hj
  obtain ⟨b, off, e, hlt, hc⟩ := h.at (by omega)
  rw [hx] at e
  have e := Option.some.inj e
  subst e
  rw [List.getElem?_map, List.getElem?_take, if_pos (by omega)] at hu
  have hz : z[j]? = some (z.getD j 0) := by simp [List.getD, show j < z.length by omega]
  rw [hz] at hu
  simp only [Option.map_some, Option.some.injEq] at hu
  rw [← hu, Addr.add_lit]
  exact stepc hb hlt (hc j (by omega))
theorem below_new2 {w w4 : World} {o1 o2 : Obj} (hg : ((w.alloc o1).alloc o2).grownBy w4 none) : Below w.heap.size w w4 :=
  (((Below.refl _ _).alloc (Nat.le_refl _) _).alloc (by simp) _).grown hg (by simp; omega) (fun _ h => by cases h)
theorem row_app {w : World} {base T m c : Nat} {a : Option Addr} {z : List Int} (h : w.ownsRow base T 1 (.slice a (m + 3) c) (m + 3) ((z.take m).map (Value.int .u32) ++ [.int .u32 0, .int .u32 0, .int .u32 0])) (hm : m ≤ 8 := by omega) : Row .u32 w a (m + 3) (z.take m ++ [0, 0, 0]) := by
  have e : (z.take m).map (Value.int .u32) ++ [.int .u32 0, .int .u32 0, .int .u32 0] = (z.take m ++ [0, 0, 0]).map (Value.int .u32) := by simp
  rw [e] at h
  exact Row.of_own h (by have := h.1; simpa using this) (by omega)
theorem below_new1 {w w4 : World} {o : Obj} (hg : (w.alloc o).grownBy w4 none) : Below w.heap.size w w4 :=
  ((Below.refl _ _).alloc (Nat.le_refl _) _).grown hg (by simp) (fun _ h => by cases h)
/-- A graph that a call has made for itself. -/
structure AtG (w0 : World) (B : Nat) (w : World) (p : Pl) (G : Gr) : Prop where
  is : Is w p G
  wf : Wf G
  b : p.b = B
  out : ∀ k, p.has k → w0.heap.size ≤ k
  below : Below w0.heap.size w0 w
  len : G.nodes.length ≤ 100000
theorem AtG.step {w0 w w2 : World} {B : Nat} {p : Pl} {G : Gr} (h : AtG w0 B w p G) (hb : Below w.heap.size w w2) : AtG w0 B w2 p G :=
  ⟨h.is.below hb, h.wf, h.b, h.out, nextw h.below hb, h.len⟩
theorem AtG.next {w0 w w2 : World} {B : Nat} {p p' : Pl} {G G' : Gr} (h : AtG w0 B w p G) (hS : Step p w p' w2 G') (hW : Wf G') (hl : G'.nodes.length ≤ 100000) : AtG w0 B w2 p' G' :=
  ⟨hS.is, hW, hS.b.trans h.b, fun k hk => by
    rcases hS.new k hk with h1 | h1
    · exact h.out k h1
    · exact Nat.le_trans h.below.size h1, h.below.trans (hS.kept.below h.out h.below.size), hl⟩
theorem AtG.new {F H : Bool} (w0 : World) {w : World} (h0 : Below w0.heap.size w0 w) :
    Calls Try.prog 21 #[.agg #[.bool F, .bool H]] w fun e w' => ∃ p, e = .returned (.pointer (some ⟨p.b, 0, none⟩)) ∧ AtG w0 p.b w' p (newG F H) :=
  (new_any F H w).mono fun e w' ⟨p, he, hI, hB, hout⟩ => ⟨p, he, hI, Wf_new F H, rfl, fun k hk => Nat.le_trans h0.size (hout k hk), nextw h0 hB, by simp [newG]⟩
theorem AtG.input {w0 w : World} {B : Nat} {p : Pl} {G G' : Gr} (h : AtG w0 B w p G) (hG : inputG G = G') {v : Int} (hv : 2 * (G.nodes.length : Int) = v) (hl : G.nodes.length ≤ 90000) :
    Calls Try.prog 33 #[.pointer (some ⟨B, 0, none⟩)] w fun e w' => e = .returned (.tuple #[.int .u32 v, .int .i64 0]) ∧ ∃ p', AtG w0 B w' p' G' := by
  subst hG
  have := Input_any h.is h.wf (by omega)
  rw [h.b] at this
  exact this.mono fun e w' ⟨he, p', hS⟩ => ⟨by rw [he, hv], p', h.next hS (Wf_inputG h.wf) (by rw [inputG_len]; omega)⟩
theorem AtG.many {f : FuncId} {T : Gr → Int → Int → Gr × Int} {z : Int} {k : Nat} (hF : ManyCall f T z) (hT : OpOk T k) (hk : k ≤ 3) (hz : z = 0 ∨ z = 1) {w0 w : World} {B : Nat} {p : Pl} {G : Gr} (h : AtG w0 B w p G) {a : Option Addr} {n cap : Nat} {l : List Int} (hs : Row .u32 w a n l) (hcap : n ≤ cap) (hap : ∀ x, a = some x → ¬ p.has x.block) (hl : AllThere G l) (hn : n ≤ 20) (h9 : G.nodes.length ≤ 90000) :
    Calls Try.prog f #[.pointer (some ⟨B, 0, none⟩), .slice a n cap] w fun e w' => e = .returned (.tuple #[.int .u32 (manyG T z G l).2, .int .i64 0]) ∧ ∃ p', AtG w0 B w' p' (manyG T z G l).1 := by
  have hlen := hs.len
  have hkk : k * l.length ≤ 3 * 20 := Nat.mul_le_mul hk (by omega)
  have g := manyG_good hT h.wf (there_lit h.wf hz) hl (by omega)
  have := hF w p G a n cap l h.is h.wf hs hcap hap hl (by omega)
  rw [h.b] at this
  exact this.mono fun e w' ⟨he, p', hS⟩ => ⟨he, p', h.next hS g.wf (by have := g.len; omega)⟩
/-- A call of two. -/
theorem AtG.two {f : FuncId} {T : Gr → Int → Int → Gr × Int} {z : Int} {k : Nat} (hF : ManyCall f T z) (hT : OpOk T k) (hk : k ≤ 3) (hz : z = 0 ∨ z = 1) {w0 w : World} {B : Nat} {p : Pl} {G : Gr} (h : AtG w0 B w p G) {x y : Int} {G' : Gr} {v : Int} (hr : manyG T z G [x, y] = (G', v)) (hx : There G x) (hy : There G y) (h9 : G.nodes.length ≤ 90000) :
    Calls Try.prog f #[.pointer (some ⟨B, 0, none⟩), .slice (some ⟨w.heap.size, 0, none⟩) 2 2] (w.alloc (.cells #[.int .u32 x, .int .u32 y] 50)) fun e w' => e = .returned (.tuple #[.int .u32 v, .int .i64 0]) ∧ ∃ p', AtG w0 B w' p' G' := by
  have hlt := fun k (hk : p.has k) => h.is.has_lt hk
  have := (h.step ((Below.refl _ _).alloc (Nat.le_refl _) (.cells #[.int .u32 x, .int .u32 y] 50))).many hF hT hk hz (row2 w x y _) (Nat.le_refl _) (by
    intro b hb hp
    have := hlt _ hp
    cases hb
    simp at this) (l := [x, y]) (by intro u hu; simp at hu; rcases hu with rfl | rfl <;> assumption) (by omega) h9
  rw [hr] at this
  exact this
theorem AtG.empty {f : FuncId} {T : Gr → Int → Int → Gr × Int} {z : Int} {k : Nat} (hF : ManyCall f T z) (hT : OpOk T k) (hk : k ≤ 3) (hz : z = 0 ∨ z = 1) {w0 w : World} {B : Nat} {p : Pl} {G : Gr} (h : AtG w0 B w p G) (h9 : G.nodes.length ≤ 90000) :
    Calls Try.prog f #[.pointer (some ⟨B, 0, none⟩), .slice none 0 0] w fun e w' => e = .returned (.tuple #[.int .u32 z, .int .i64 0]) ∧ ∃ p', AtG w0 B w' p' G :=
  h.many hF hT hk hz (a := none) (n := 0) (cap := 0) (l := []) ⟨rfl, by omega, .inl rfl⟩ (Nat.le_refl _) (by intro x hx; cases hx) (by intro x hx; cases hx) (by omega) h9
/-- A row that the statement has made itself. -/
structure Mine (w0 w : World) (T : Nat) (v : Value) (n : Nat) (xs : List Value) : Prop where
  own : w.ownsRow w0.heap.size T 1 v n xs
  t1 : T ≠ 92
  t2 : T ≠ 98
  t3 : T ≠ 3
theorem Mine.step {w0 w w2 : World} {T : Nat} {v : Value} {n : Nat} {xs : List Value} (h : Mine w0 w T v n xs) (hb : Below w.heap.size w w2) : Mine w0 w2 T v n xs := ⟨own_below h.own hb, h.t1, h.t2, h.t3⟩
theorem Mine.next {w0 w w2 : World} {p : Pl} {G : Gr} {T : Nat} {v : Value} {n : Nat} {xs : List Value} (h : Mine w0 w T v n xs) (hI : Is w p G) (hk : Kept p.has w w2) : Mine w0 w2 T v n xs := ⟨own_beside hI h.own hk h.t1 h.t2 h.t3, h.t1, h.t2, h.t3⟩
theorem Mine.row {w0 w : World} {T : Nat} {a : Option Addr} {n c : Nat} {k : IntKind} {l : List Int} (h : Mine w0 w T (.slice a n c) n (l.map (Value.int k))) (hn : n ≤ 9223372036854775807) : Row k w a n l ∧ n ≤ c := ⟨Row.of_own h.own (by have := h.own.1; simpa using this) hn, own_cap h.own⟩
theorem Mine.far {w0 w : World} {p : Pl} {G : Gr} (hI : Is w p G) {T : Nat} {a : Option Addr} {n c : Nat} {xs : List Value} (h : Mine w0 w T (.slice a n c) n xs) : ∀ x, a = some x → ¬ p.has x.block := own_far hI h.own h.t1 h.t2 h.t3
/-- Behind an append to a row of another type. -/
theorem AtG.grown {w0 w w2 : World} {B : Nat} {p : Pl} {G : Gr} (h : AtG w0 B w p G) {T : Nat} {v : Value} {n : Nat} {xs : List Value} (hM : Mine w0 w T v n xs) (hg : w.grownBy w2 v.ownBlock) : AtG w0 B w2 p G :=
  ⟨h.is.beside (kept_grown hg) (fun k hk hp => by
    obtain ⟨cur, hh⟩ := own_type hM.own hk
    exact h.is.other hh hM.t1 hM.t2 hM.t3 hp), h.wf, h.b, h.out, h.below.grown hg h.below.size (fun k hk => own_ge hM.own k hk), h.len⟩
theorem AtG.inputs {w0 w : World} {B : Nat} {p : Pl} {G : Gr} (h : AtG w0 B w p G) :
    Calls Try.prog 14 #[.pointer (some ⟨B, 0, none⟩)] w fun e w' => ∃ (a : Option Addr) (cap : Nat), e = .returned (.slice a G.inputs.length cap) ∧ Below w.heap.size w w' := by
  have := Inputs_any h.is h.wf (by have := h.len; omega)
  rw [h.b] at this
  exact this
/-- As 'AtG.many', with the step. -/
theorem AtG.manyS {f : FuncId} {T : Gr → Int → Int → Gr × Int} {z : Int} {k : Nat} (hF : ManyCall f T z) (hT : OpOk T k) (hk : k ≤ 3) (hz : z = 0 ∨ z = 1) {w0 w : World} {B : Nat} {p : Pl} {G : Gr} (h : AtG w0 B w p G) {T2 : Nat} {a : Option Addr} {n cap : Nat} {l : List Int} (hM : Mine w0 w T2 (.slice a n cap) n (l.map (Value.int .u32))) (hl : AllThere G l) (hn : n ≤ 20) (h9 : G.nodes.length ≤ 90000) :
    Calls Try.prog f #[.pointer (some ⟨B, 0, none⟩), .slice a n cap] w fun e w' => e = .returned (.tuple #[.int .u32 (manyG T z G l).2, .int .i64 0]) ∧ ∃ p', AtG w0 B w' p' (manyG T z G l).1 ∧ Step p w p' w' (manyG T z G l).1 := by
  obtain ⟨hs, hcap⟩ := hM.row (by omega)
  have hlen := hs.len
  have hkk : k * l.length ≤ 3 * 20 := Nat.mul_le_mul hk (by omega)
  have g := manyG_good hT h.wf (there_lit h.wf hz) hl (by omega)
  have := hF w p G a n cap l h.is h.wf hs hcap (hM.far h.is) hl (by omega)
  rw [h.b] at this
  exact this.mono fun e w' ⟨he, p', hS⟩ => ⟨he, p', h.next hS g.wf (by have := g.len; omega), hS⟩
/-- Gates among the first nodes. -/
def gatesTo (G : Gr) (j : Nat) : Nat := (G.nodes.take j).countP (·.gate)
theorem gatesTo_succ {G : Gr} {j : Nat} (h : j < G.nodes.length) : gatesTo G (j + 1) = gatesTo G j + if (nodeAt G j).gate then 1 else 0 := by
  unfold gatesTo nodeAt
  rw [List.take_add_one, List.countP_append]
  simp [List.getD, h, List.countP_cons]
theorem gatesTo_all {G : Gr} (hW : Wf G) : (gatesTo G G.nodes.length : Int) = G.nodes.length - 1 - G.inputs.length := by
  have := hW.cnt
  unfold gatesTo
  rw [List.take_length]; omega
theorem gatesTo_le (G : Gr) (j : Nat) : gatesTo G j ≤ G.nodes.length := by
  unfold gatesTo
  exact Nat.le_trans List.countP_le_length (by simp; omega)
theorem AtG.beside {w0 w w2 : World} {B : Nat} {p : Pl} {G : Gr} (h : AtG w0 B w p G) {F : Nat → Prop} (hk : Kept F w w2) (hF : ∀ k, F k → ¬ p.has k) (ho : ∀ k, F k → w0.heap.size ≤ k) : AtG w0 B w2 p G :=
  ⟨h.is.beside hk hF, h.wf, h.b, h.out, h.below.trans (hk.below ho h.below.size), h.len⟩
theorem Mine.beside {w0 w w2 : World} {T : Nat} {v : Value} {n : Nat} {xs : List Value} (h : Mine w0 w T v n xs) {F : Nat → Prop} (hk : Kept F w w2) (hF : ∀ k, v.ownBlock = some k → ¬ F k) : Mine w0 w2 T v n xs :=
  ⟨own_keptF h.own hk hF, h.t1, h.t2, h.t3⟩
theorem Mine.grown {w0 w w2 : World} {T T2 : Nat} {v v2 : Value} {n n2 : Nat} {xs xs2 : List Value} (h : Mine w0 w T v n xs) (h2 : Mine w0 w T2 v2 n2 xs2) (hT : T ≠ T2) (hg : w.grownBy w2 v2.ownBlock) : Mine w0 w2 T v n xs :=
  h.beside (kept_grown hg) (fun k e1 e2 => by
    obtain ⟨c1, q1⟩ := own_type h.own e1
    obtain ⟨c2, q2⟩ := own_type h2.own e2
    rw [q1] at q2
    simp at q2
    exact hT q2.2)
theorem AtG.inputS {w0 w : World} {B : Nat} {p : Pl} {G : Gr} (h : AtG w0 B w p G) (hl : G.nodes.length ≤ 90000) :
    Calls Try.prog 33 #[.pointer (some ⟨B, 0, none⟩)] w fun e w' => e = .returned (.tuple #[.int .u32 (2 * (G.nodes.length : Int)), .int .i64 0]) ∧ ∃ p', AtG w0 B w' p' (inputG G) ∧ Step p w p' w' (inputG G) := by
  have := Input_any h.is h.wf (by omega)
  rw [h.b] at this
  exact this.mono fun e w' ⟨he, p', hS⟩ => ⟨he, p', h.next hS (Wf_inputG h.wf) (by rw [inputG_len]; omega), hS⟩
theorem Mine.lt {w0 w : World} {T : Nat} {v : Value} {n : Nat} {xs : List Value} (h : Mine w0 w T v n xs) : ∀ k, v.ownBlock = some k → k < w.heap.size := fun k hk => by
  obtain ⟨cur, hh⟩ := own_type h.own hk
  exact (Array.getElem?_eq_some_iff.1 hh).1
theorem AtG.nodes {w0 w : World} {B : Nat} {p : Pl} {G : Gr} (h : AtG w0 B w p G) :
    Calls Try.prog 13 #[.pointer (some ⟨B, 0, none⟩)] w fun e w' => e = .returned (.int .i64 G.nodes.length) ∧ w = w' := by
  have := nodes_any h.is.lay h.wf.pos
  rw [h.b] at this
  exact this
theorem AtG.gates {w0 w : World} {B : Nat} {p : Pl} {G : Gr} (h : AtG w0 B w p G) :
    Calls Try.prog 71 #[.pointer (some ⟨B, 0, none⟩)] w fun e w' => e = .returned (.int .i64 ((G.nodes.length : Int) - 1 - G.inputs.length)) ∧ Below w.heap.size w w' := by
  have hc := h.wf.cnt
  have := gates_any h.is.lay h.wf.pos (by omega) (by have := h.len; omega)
  rw [h.b] at this
  exact this
/-- An And of two, with a row beside it. -/
theorem AtG.andS {w0 w : World} {B : Nat} {p : Pl} {G : Gr} (h : AtG w0 B w p G) {T : Nat} {v : Value} {m : Nat} {xs : List Value} (hM : Mine w0 w T v m xs) {x y : Int} {G' : Gr} {z : Int} (hr : andG G x y = (G', z)) (hx : There G x) (hy : There G y) (h9 : G.nodes.length ≤ 90000) :
    Calls Try.prog 31 #[.pointer (some ⟨B, 0, none⟩), .slice (some ⟨w.heap.size, 0, none⟩) 2 2] (w.alloc (.cells #[.int .u32 x, .int .u32 y] 50)) fun e w' => e = .returned (.tuple #[.int .u32 z, .int .i64 0]) ∧ ∃ p', AtG w0 B w' p' G' ∧ Mine w0 w' T v m xs := by
  have hlt := fun k (hk : p.has k) => h.is.has_lt hk
  have hb := (Below.refl w.heap.size w).alloc (Nat.le_refl _) (.cells #[.int .u32 x, .int .u32 y] 50)
  have h1 := h.step hb
  have hl : AllThere G [x, y] := by intro u hu; simp at hu; rcases hu with rfl | rfl <;> assumption
  have g := andG_good h.wf hx hy (by omega)
  have := And_any _ p G _ 2 2 [x, y] h1.is h1.wf (row2 w x y _) (Nat.le_refl _) (by
    intro b hb hp
    have := hlt _ hp
    cases hb
    simp at this) hl (by omega)
  rw [h.b, show manyG andG 1 G [x, y] = andG G x y from rfl, hr] at this
  rw [hr] at g
  exact this.mono fun e w' ⟨he, p', hS⟩ => ⟨he, p', h1.next hS g.wf (by have := g.len; simp only at this; omega), (hM.step hb).next h1.is hS.kept⟩
end Go.Proofs.Ytjdebancpgpebaa
