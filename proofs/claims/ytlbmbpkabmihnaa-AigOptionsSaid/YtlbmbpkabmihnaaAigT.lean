/-
  AigMeans: what is held along the way.
-/
import Derived.Test.YtlbmbpkabmihnaaAigQ
import Derived.Test.YtlbmbpkabmihnaaAigR
import Derived.Test.YtlbmbpkabmihnaaAigS
namespace Go.Proofs.Ytlbmbpkabmihnaa
open Go.RowKit Go.Maps

/-- A row that the statement has made itself. -/
structure Mine (w0 w : World) (T : Nat) (v : Value) (n : Nat) (xs : List Value) : Prop where
  own : w.ownsRow w0.heap.size T 1 v n xs
  t1 : T ≠ 67
  t2 : T ≠ 70
  t3 : T ≠ 3
theorem Mine.step {w0 w w2 : World} {T : Nat} {v : Value} {n : Nat} {xs : List Value} (h : Mine w0 w T v n xs) (hb : Below w.heap.size w w2) : Mine w0 w2 T v n xs := ⟨own_below h.own hb, h.t1, h.t2, h.t3⟩
theorem Mine.next {w0 w w2 : World} {p : Pl} {G : Gr} {T : Nat} {v : Value} {n : Nat} {xs : List Value} (h : Mine w0 w T v n xs) (hI : Is w p G) (hk : Kept p.has w w2) : Mine w0 w2 T v n xs := ⟨own_beside hI h.own hk h.t1 h.t2 h.t3, h.t1, h.t2, h.t3⟩
theorem Mine.row {w0 w : World} {T : Nat} {a : Option Addr} {n c : Nat} {k : IntKind} {l : List Int} (h : Mine w0 w T (.slice a n c) n (l.map (Value.int k))) (hn : n ≤ 9223372036854775807) : Row k w a n l ∧ n ≤ c := ⟨Row.of_own h.own (by have := h.own.1; simpa using this) hn, own_cap h.own⟩
theorem Mine.far {w0 w : World} {p : Pl} {G : Gr} (hI : Is w p G) {T : Nat} {a : Option Addr} {n c : Nat} {xs : List Value} (h : Mine w0 w T (.slice a n c) n xs) : ∀ x, a = some x → ¬ p.has x.block := own_far hI h.own h.t1 h.t2 h.t3

theorem GrownR.atG {w wr : World} {b0 : Nat} {G : Gr} {t : List Int} {v : Value} {p : Pl} {j : Nat} (h : GrownR w b0 G t v wr p) (hk : Kind G t j) (hj : j ≤ 1000) : AtG w b0 wr p G :=
  ⟨h.is, hk.wf, h.b, h.out, h.below, by have := hk.len; omega⟩
/-- Behind an append to a row of another type. -/
theorem AtG.grown {w0 w w2 : World} {B : Nat} {p : Pl} {G : Gr} (h : AtG w0 B w p G) {T : Nat} {v : Value} {n : Nat} {xs : List Value} (hM : Mine w0 w T v n xs) (hg : w.grownBy w2 v.ownBlock) : AtG w0 B w2 p G :=
  ⟨h.is.beside (kept_grown hg) (fun k hk hp => by
    obtain ⟨cur, hh⟩ := own_type hM.own hk
    exact h.is.other hh hM.t1 hM.t2 hM.t3 hp), h.wf, h.b, h.out, h.below.grown hg h.below.size (fun k hk => own_ge hM.own k hk), h.len⟩
theorem AtG.eval {w0 w : World} {B : Nat} {p : Pl} {G : Gr} (h : AtG w0 B w p G) {a : Option Addr} {cap : Nat} {ins : List Int} (hs : Row .u64 w a G.inputs.length ins) (hI : Words ins) :
    Calls Try.prog 9 #[.pointer (some ⟨B, 0, none⟩), .slice a G.inputs.length cap] w fun e w' => ∃ ws a2, e = .returned (.tuple #[.slice a2 G.nodes.length G.nodes.length, .int .i64 0])
      ∧ Mine w0 w' 36 (.slice a2 G.nodes.length G.nodes.length) G.nodes.length (ws.map (Value.int .u64)) ∧ ws.length = G.nodes.length ∧ Val G ins ws ∧ Below w.heap.size w w' := by
  have := Eval_any (cap := cap) h.is h.wf (by have := h.len; omega) hs hI
  rw [h.b] at this
  exact this.mono fun e w' ⟨ws, he, ho, hl, hv, hB⟩ => ⟨ws, _, he, ⟨own_base ho h.below.size, by decide, by decide, by decide⟩, hl, hv, hB⟩
theorem AtG.brought {w0 w : World} {B : Nat} {p : Pl} {G : Gr} (h : AtG w0 B w p G) {a : Option Addr} {n cap : Nat} {zs : List Int} (hs : Row .u32 w a n zs) (hcap : n ≤ cap) (hz : ∀ i, IsLit (zs.getD i 0)) :
    Calls Try.prog 10 #[.pointer (some ⟨B, 0, none⟩), .slice a n cap] w fun e w' => ∃ a2 c2, e = .returned (.slice a2 (min n 8) c2) ∧ Mine w0 w' 42 (.slice a2 (min n 8) c2) (min n 8) ((broughtL G zs).map (Value.int .u32)) ∧ Below w.heap.size w w' := by
  have := brought_any h.is h.wf (by have := h.len; omega) hs hcap hz
  rw [h.b] at this
  exact this.mono fun e w' ⟨v, he, ho, hB⟩ => by
    obtain ⟨a2, c2, rfl⟩ := own_slice ho
    exact ⟨a2, c2, he, ⟨own_base ho h.below.size, by decide, by decide, by decide⟩, hB⟩
theorem AtG.inputs {w0 w : World} {B : Nat} {p : Pl} {G : Gr} (h : AtG w0 B w p G) :
    Calls Try.prog 8 #[.pointer (some ⟨B, 0, none⟩)] w fun e w' => ∃ (a : Option Addr) (cap : Nat), e = .returned (.slice a G.inputs.length cap) ∧ Below w.heap.size w w' := by
  have := Inputs_any h.is h.wf (by have := h.len; omega)
  rw [h.b] at this
  exact this
theorem AtG.mux {w0 w : World} {B : Nat} {p : Pl} {G : Gr} (h : AtG w0 B w p G) (h9 : G.nodes.length ≤ 90000) {c a b : Int} (hc : There G c) (ha : There G a) (hb : There G b) :
    Calls Try.prog 14 #[.pointer (some ⟨B, 0, none⟩), .int .u32 c, .int .u32 a, .int .u32 b] w fun e w' => e = .returned (.tuple #[.int .u32 (muxG G c a b).2, .int .i64 0]) ∧ ∃ p', AtG w0 B w' p' (muxG G c a b).1 ∧ Step p w p' w' (muxG G c a b).1 := by
  have g := muxG_good h.wf hc ha hb (by omega)
  have := Mux_any h.is h.wf (by omega) hc ha hb
  rw [h.b] at this
  exact this.mono fun e w' ⟨he, p', hS⟩ => ⟨he, p', h.next hS g.wf (by have := g.len; omega), hS⟩
theorem AtG.raw {w0 w : World} {B : Nat} {p : Pl} {G : Gr} (h : AtG w0 B w p G) (h9 : G.nodes.length ≤ 90000) {a b : Int} (ha : There G a) (hb : There G b) :
    Calls Try.prog 15 #[.pointer (some ⟨B, 0, none⟩), .int .u32 a, .int .u32 b] w fun e w' => e = .returned (.tuple #[.int .u32 (gateG G a b).2, .int .i64 0]) ∧ ∃ p', AtG w0 B w' p' (gateG G a b).1 ∧ Step p w p' w' (gateG G a b).1 := by
  have g := gateG_good h.wf ha hb (by omega)
  have := Raw_any h.is h.wf (by omega) ha hb
  rw [h.b] at this
  exact this.mono fun e w' ⟨he, p', hS⟩ => ⟨he, p', h.next hS g.wf (by have := g.len; omega), hS⟩
/-- As 'AtG.many', with the step. -/
theorem AtG.manyS {f : FuncId} {T : Gr → Int → Int → Gr × Int} {z : Int} {k : Nat} (hF : ManyCall f T z) (hT : OpOk T k) (hk : k ≤ 3) (hz : z = 0 ∨ z = 1) {w0 w : World} {B : Nat} {p : Pl} {G : Gr} (h : AtG w0 B w p G) {T2 : Nat} {a : Option Addr} {n cap : Nat} {l : List Int} (hM : Mine w0 w T2 (.slice a n cap) n (l.map (Value.int .u32))) (hl : AllThere G l) (hn : n ≤ 20) (h9 : G.nodes.length ≤ 90000) :
    Calls Try.prog f #[.pointer (some ⟨B, 0, none⟩), .slice a n cap] w fun e w' => e = .returned (.tuple #[.int .u32 (manyG T z G l).2, .int .i64 0]) ∧ ∃ p', AtG w0 B w' p' (manyG T z G l).1 ∧ Step p w p' w' (manyG T z G l).1 := by
  obtain ⟨hs, hcap⟩ := hM.row (by omega)
  have hlen := hs.len
  have hkk : k * l.length ≤ 3 * 20 := Nat.mul_le_mul hk (by omega)
  have g := manyG_good hT h.wf (there_lit h.wf hz) hl (by omega)
  have := hF w p G a n cap l h.is h.wf hs hcap (hM.far h.is) hl (by omega)
  rw [h.b] at this
  exact this.mono fun e w' ⟨he, p', hS⟩ => ⟨he, p', h.next hS g.wf (by have := g.len; omega), hS⟩
end Go.Proofs.Ytlbmbpkabmihnaa
