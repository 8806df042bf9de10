/-
  How often an input is driven: the map; the first buses of a row.
-/
import Derived.Test.YtjdebancpgpebaaNwA
import Derived.Maps.OwnSet
namespace Go.Proofs.Ytjdebancpgpebaa
open Go.RowKit Go.Maps Bits
set_option maxRecDepth 100000

def lkey (x : Int) : Lit := .int .u32 x
theorem llaw : Keyed Try.prog 50 := int_keyed Try.underlying50
theorem lkey_of {x : Int} (h : IsLit x) : keyOf Try.prog 50 (.int .u32 x) = some (lkey x) := keyOf_int_mk Try.underlying50 (lit_wf h)
theorem lkey_key {x : Int} (h : IsLit x) : WideAt.IsKeyLit (lkey x) := llaw.key (lkey_of h)
theorem lkey_ne {x y : Int} (h : ¬ x = y) : lkey x ≠ lkey y := fun e => h (by unfold lkey at e; exact (Lit.int.inj e).2)
theorem zeroI (w : World) : (zeroValue 3).run Try.prog w = .ok (.int .i64 0) w := by kernel_rfl

structure Drv (D : DataW Unit) (l : List Int) : Prop where
  tidy : Tidy D
  has : ∀ x, IsLit x → has D (lkey x) = decide (x ∈ l)
  val : ∀ x z, IsLit x → x ∈ l → D.atKey (lkey x) z = .lit (.int .i64 1)
  size : Maps.size D = l.length
theorem Drv.nil : Drv (.map []) [] := ⟨tidy_empty, fun x _ => by simp [Maps.has], fun x z _ h => by simp at h, rfl⟩
theorem Drv.put {D : DataW Unit} {l : List Int} (h : Drv D l) {x : Int} (hx : IsLit x) (hn : x ∉ l) : Drv (D.put (lkey x) (.lit (.int .i64 1))) (l ++ [x]) := by
  refine ⟨h.tidy.put (lkey_key hx) _, fun y hy => ?_, fun y z hy hm => ?_, ?_⟩
  · by_cases e : y = x
    · subst e; rw [has_put_same h.tidy.isMap (lkey_key hy)]; simp
    · rw [has_put_other (lkey_ne e), h.has y hy]; simp [e]
  · by_cases e : y = x
    · subst e; exact atKey_put_same h.tidy.isMap (lkey_key hy) _ _
    · rw [atKey_put_other (lkey_ne e)]
      exact h.val y z hy (by simpa [e] using hm)
  · rw [size_put h.tidy, h.has x hx, h.size]
    simp [hn]
theorem Drv.del {D : DataW Unit} {l : List Int} {x : Int} (h : Drv D (x :: l)) (hx : IsLit x) (hn : x ∉ l) : Drv (D.del (lkey x)) l := by
  refine ⟨h.tidy.del _, fun y hy => ?_, fun y z hy hm => ?_, ?_⟩
  · by_cases e : y = x
    · subst e; rw [has_del_same]; simp [hn]
    · rw [has_del_other (lkey_ne e), h.has y hy]; simp [e]
  · have e : ¬ y = x := by rintro rfl; exact hn hm
    rw [atKey_del_other (lkey_ne e)]
    exact h.val y z hy (by simp [hm])
  · have := size_del h.tidy (k := lkey x)
    rw [h.has x hx, h.size] at this
    simp at this
    omega
theorem Drv.perm {D : DataW Unit} {l m : List Int} (h : Drv D l) (hp : l.Perm m) : Drv D m :=
  ⟨h.tidy, fun x hx => by rw [h.has x hx]; simp [hp.mem_iff], fun x z hx hm => h.val x z hx (hp.mem_iff.2 hm), by rw [h.size, hp.length_eq]⟩
theorem Drv.look {D : DataW Unit} {l : List Int} (h : Drv D l) {M n : Nat} {wr : World} (ho : wr.ownsMap Try.prog 50 (plainElem Try.prog 3) M n D) {x : Int} (hx : IsLit x) {v : Int} (hv : v = if x ∈ l then 1 else 0) :
    (Instr.lookup 44 (.map (some M)) (.int .u32 x) false).run Try.prog wr = .ok (.int .i64 v) wr := by
  obtain ⟨c, hrun, hat, -⟩ := ho.lookup_int llaw Try.underlying44 Try.underlying3 (zeroI wr) (lkey_of hx)
  have e : c = v := by
    by_cases hm : x ∈ l
    · rw [h.val x _ hx hm] at hat
      rw [hv, if_pos hm]
      have := DataW.lit.inj hat
      exact (Lit.int.inj this).2.symm
    · rw [atKey_of_not_has (by rw [h.has x hx]; simp [hm])] at hat
      rw [hv, if_neg hm]
      have := DataW.lit.inj hat
      exact (Lit.int.inj this).2.symm
  rw [e] at hrun
  exact hrun

/-- Behind some of what is taken, s is left. -/
structure DS (N : Nt) (M : Nat) (s : List Int) (p : List Int) (D : DataW Unit) (wr : World) : Prop where
  all : p ++ s = takenN N
  drv : Drv D p
  own : wr.ownsMap Try.prog 50 (plainElem Try.prog 3) M p.length D
theorem DS.step {N : Nt} {M : Nat} {s p : List Int} {D : DataW Unit} {wr w2 : World} (h : DS N M s p D wr) (hb : Below wr.heap.size wr w2) : DS N M s p D w2 := ⟨h.all, h.drv, omap_below h.own hb⟩
theorem Good.takenLit {N : Nt} (hg : Good N []) {x : Int} (hx : x ∈ takenN N) (hm : N.g.nodes.length ≤ 180000) : IsLit x := by
  obtain ⟨i, e, _, h1⟩ := hg.left.lit x (by simp [hx])
  unfold IsLit; omega
theorem Good.takenNodup {N : Nt} (hg : Good N []) : (takenN N).Nodup := by have := hg.left.nodup; simpa using this
theorem DS.head {N : Nt} {M : Nat} {x : Int} {s p : List Int} {D : DataW Unit} {wr : World} (h : DS N M (x :: s) p D wr) (hg : Good N []) (hm : N.g.nodes.length ≤ 180000) : IsLit x ∧ x ∉ p ∧ p.length ≤ 180000 := by
  have hn := hg.takenNodup
  rw [← h.all] at hn
  refine ⟨hg.takenLit (by rw [← h.all]; simp) hm, fun hp => ?_, ?_⟩
  · exact (List.nodup_append.1 hn).2.2 x hp x (by simp) rfl
  · have h1 := congrArg List.length h.all
    have h2 := hg.drv.length_eq
    have h3 := hg.wf.cnt
    unfold inLits at h2
    simp at h1 h2
    omega
theorem DS.next {N : Nt} {M : Nat} {x : Int} {s p : List Int} {D : DataW Unit} {wr w7 : World} (h : DS N M (x :: s) p D wr) (hx : IsLit x) (hn : x ∉ p) (ho : w7.ownsMap Try.prog 50 (plainElem Try.prog 3) M (p.length + 1) (D.put (lkey x) (.lit (.int .i64 1)))) : DS N M s (p ++ [x]) (D.put (lkey x) (.lit (.int .i64 1))) w7 :=
  ⟨by rw [← h.all]; simp, h.drv.put hx hn, by rw [List.length_append]; exact ho⟩
/-- What is left of the inputs. -/
structure DR (M n : Nat) (r : List Int) (D : DataW Unit) (wr : World) : Prop where
  drv : Drv D r
  own : wr.ownsMap Try.prog 50 (plainElem Try.prog 3) M n D
theorem DS.done {N : Nt} {M : Nat} {p : List Int} {D : DataW Unit} {wr : World} (h : DS N M [] p D wr) (hg : Good N []) : DR M p.length (inLits N.g) D wr := by
  have e := h.all
  rw [List.append_nil] at e
  have hd := hg.drv
  rw [List.append_nil, ← e] at hd
  exact ⟨h.drv.perm hd, h.own⟩

theorem bvCells_take (K : List BV) : ∀ j, bvCells (K.take j) = (bvCells K).take (j * 2) := by
  induction K with
  | nil => intro j; simp [bvCells]
  | cons k K ih =>
    intro j
    cases j with
    | zero => simp [bvCells]
    | succ j =>
      rw [List.take_succ_cons, show bvCells (k :: K.take j) = bvc k ++ bvCells (K.take j) from rfl, ih, show bvCells (k :: K) = bvc k ++ bvCells K from rfl, show (j + 1) * 2 = (bvc k).length + j * 2 by simp [bvc]; omega, List.take_length_add_append]
theorem DR.head {M n : Nat} {k : Nat} {r : List Int} {D : DataW Unit} {wr : World} (h : DR M n (2 * (k : Int) :: r) D wr) (hn : (2 * (k : Int) :: r).Nodup) (hx : IsLit (2 * (k : Int))) :
    (Instr.lookup 44 (.map (some M)) (.int .u32 (2 * (k : Int))) false).run Try.prog wr = .ok (.int .i64 1) wr ∧ ∀ w7 : World, w7.ownsMap Try.prog 50 (plainElem Try.prog 3) M n (D.del (lkey (2 * (k : Int)))) → DR M n r (D.del (lkey (2 * (k : Int)))) w7 :=
  ⟨h.drv.look h.own hx (v := 1) (by simp), fun _ ho => ⟨h.drv.del hx (List.nodup_cons.1 hn).1, ho⟩⟩
theorem DR.step {M n : Nat} {r : List Int} {D : DataW Unit} {wr w2 : World} (h : DR M n r D wr) (hb : Below wr.heap.size wr w2) : DR M n r D w2 := ⟨h.drv, omap_below h.own hb⟩
/-- The inputs from the j-th on. -/
theorem inLits_drop {G : Gr} (h : Wf G) {j : Nat} (hj : j < G.inputs.length) : ∃ k : Nat, G.inputs[j]? = some (k : Int) ∧ k < G.nodes.length ∧ (inLits G).drop j = 2 * (k : Int) :: (inLits G).drop (j + 1) ∧ ((inLits G).drop j).Nodup := by
  obtain ⟨k, e, _, n, hn, _⟩ := h.ins j _ (List.getElem?_eq_getElem hj)
  refine ⟨k, by rw [List.getElem?_eq_getElem hj, e], (List.getElem?_eq_some_iff.1 hn).1, ?_, (inLits_nodup h).sublist (List.drop_sublist _ _)⟩
  unfold inLits
  rw [← List.map_drop, List.drop_eq_getElem_cons hj, List.map_cons, e, ← List.map_drop]
theorem inLits_end (G : Gr) : (inLits G).drop G.inputs.length = [] := by unfold inLits; simp
/-- The first buses of a row. -/
theorem BusRow.take {w : World} {a : Option Addr} {n c : Nat} {L : List Bus} (h : BusRow w (.slice a n c) L) {j : Nat} (hj : j < L.length) : BusRow w (.slice a j c) (L.take j) := by
  obtain ⟨K, hK⟩ := h
  obtain ⟨g, cap, e⟩ := own_form hK.own (by omega)
  have ho := hK.own
  simp only [Value.slice.injEq] at e
  obtain ⟨rfl, rfl, rfl⟩ := e
  have hl := bvCells_len K
  have hlen := hK.len
  have htl : (L.take j).length = j := by rw [List.length_take]; omega
  refine ⟨K.take j, ?_, by rw [htl, List.length_take]; omega, fun i k b e1 e2 => ?_⟩
  · rw [htl]
    rcases ho.2 with ⟨h0, _⟩ | ⟨g', cap', cur, hv, hb, hh, h1, h2, h3, h4⟩
    · simp at h0
    · simp only [Value.slice.injEq, Option.some.injEq, Addr.mk.injEq, and_true, true_and] at hv
      obtain ⟨rfl, rfl⟩ := hv
      refine ⟨by rw [bvCells_len, List.length_take]; omega, .inr ⟨_, _, cur, rfl, hb, hh, by omega, h2, h3, ?_⟩⟩
      have e := bvCells_take K j
      rw [e, ← h4, List.take_take]
      congr 1
      omega
  · rw [List.getElem?_take] at e1 e2
    split at e1
    · rename_i hi; rw [if_pos hi] at e2; exact hK.row i k b e1 e2
    · cases e1
theorem atB_first {L : List Bus} (h : NamesApart L) {j : Nat} (hj : j < L.length) : atB (L.take j) L[j].name = none := by
  unfold atB
  rw [List.findIdx?_eq_none_iff]
  intro b hb
  have := List.any_eq_false.1 (seen_not h hj) b hb
  simpa using this
theorem row_mem {w : World} {kd : IntKind} {a : Option Addr} {n : Nat} {l : List Int} (h : Row kd w a n l) {k : Nat} (hk : k < n) : l.getD k 0 ∈ l := by
  have hl : k < l.length := by rw [h.len]; exact hk
  simp [List.getD, hl]
end Go.Proofs.Ytjdebancpgpebaa
