/-
  A new gate: its place in the map.
-/
import Derived.Test.YtjdebancpgpebaaAigB
import Derived.StillTailTactics
namespace Go.Proofs.Ytjdebancpgpebaa
open Go.RowKit Go.Maps

theorem mapOf_keep {ns : List Nd} {D : DataW Unit} (h : MapOf ns D) {n : Nd} (hn : ∀ a b, IsLit a → IsLit b → findG ns a b = none → isPair a b n = false) : MapOf (ns ++ [n]) D := by
  refine ⟨h.1, fun a b ha hb => ?_⟩
  obtain ⟨h1, h2⟩ := h.2 a b ha hb
  have e : findG (ns ++ [n]) a b = findG ns a b := by
    rw [findG_push]
    cases hf : findG ns a b with
    | some i => rfl
    | none => rw [if_neg (by rw [hn a b ha hb hf]; simp)]; rfl
  rw [e]; exact ⟨h1, h2⟩
theorem mapOf_input {ns : List Nd} {D : DataW Unit} (h : MapOf ns D) : MapOf (ns ++ [⟨false, 0, 0⟩]) D := mapOf_keep h (fun _ _ _ _ _ => rfl)
theorem mapOf_found {ns : List Nd} {D : DataW Unit} (h : MapOf ns D) {a b : Int} {i : Nat} (hf : findG ns a b = some i) : MapOf (ns ++ [⟨true, a, b⟩]) D :=
  mapOf_keep h (fun c d _ _ hn => by
    unfold isPair
    by_cases e : a = c ∧ b = d
    · obtain ⟨rfl, rfl⟩ := e; rw [hf] at hn; cases hn
    · simp; omega)
theorem mapOf_put {ns : List Nd} {D : DataW Unit} (h : MapOf ns D) {a b : Int} (ha : IsLit a) (hb : IsLit b) (hf : findG ns a b = none) : MapOf (ns ++ [⟨true, a, b⟩]) (D.put (pkey a b) (.lit (.int .u32 (2 * (ns.length : Int))))) := by
  refine ⟨h.1.put _ _, fun c d hc hd => ?_⟩
  obtain ⟨h1, h2⟩ := h.2 c d hc hd
  rw [findG_push]
  by_cases e : a = c ∧ b = d
  · obtain ⟨rfl, rfl⟩ := e
    rw [hf, has_put_same h.1 (pkey_key ha hb), show isPair a b ⟨true, a, b⟩ = true by simp [isPair]]
    refine ⟨rfl, fun i hi => ?_⟩
    simp at hi
    rw [atKey_put_same h.1 (pkey_key ha hb), hi]
  · have hne : pkey c d ≠ pkey a b := fun he => e (by obtain ⟨x, y⟩ := pkey_inj hc hd ha hb he; exact ⟨x.symm, y.symm⟩)
    have hp : isPair c d ⟨true, a, b⟩ = false := by unfold isPair; simp; omega
    rw [hp, has_put_other hne, atKey_put_other hne]
    simp only [Bool.false_eq_true, if_false, Option.or_none]
    exact ⟨h1, h2⟩

theorem kept_cell {F : Nat → Prop} {w w' : World} (h : Kept F w w') {b o : Nat} (hb : b < w.heap.size) (hn : ¬ F b) : w'.cell? ⟨b, o, none⟩ = w.cell? ⟨b, o, none⟩ ∧ w'.frozen? ⟨b, o, none⟩ = w.frozen? ⟨b, o, none⟩ :=
  ⟨World.cell?_of_block (h.block b hb hn), World.frozen?_of_block (h.block b hb hn)⟩
theorem box2 {w w1 : World} {x y : Value} {T : Nat} (hb : Below (w.alloc (.cells #[x, y] T)).heap.size (w.alloc (.cells #[x, y] T)) w1) :
    Below w.heap.size w w1 ∧ w.heap.size + 1 ≤ w1.heap.size ∧ w1.cell? ⟨w.heap.size, 0, none⟩ = some x ∧ w1.cell? ⟨w.heap.size, 1, none⟩ = some y :=
  ⟨nextb ((Below.refl _ _).alloc (Nat.le_refl _) _) (by simp) hb, by have := hb.size; simpa using this, stepc hb (by simp) (by simp), stepc hb (by simp) (by simp)⟩
theorem Lay.grown {w w' : World} {p : Pl} {F H : Bool} {ns : List Nd} {ins : List Int} {mb : Nat} {es : Array MapEntry} {cl : Nat} (h : Lay w p F H ns ins) (hg : w.grownBy w' (some mb)) (hm : w.heap[mb]? = some (.map es cl)) : Lay w' p F H ns ins := by
  have hne : ∀ k cs T fz, w.heap[k]? = some (.cells cs T fz) → k < w.heap.size ∧ some k ≠ some mb := fun k cs T fz e =>
    ⟨(Array.getElem?_eq_some_iff.1 e).1, fun e2 => by simp at e2; subst e2; rw [hm] at e; cases e⟩
  have own : ∀ {e size n : Nat} {v : Value} {xs : List Value}, w.ownsRow 0 e size v n xs → w'.ownsRow 0 e size v n xs := by
    intro e size n v xs h
    refine ⟨h.1, ?_⟩
    rcases h.2 with h0 | ⟨g, cap, cur, hv, hg', hh, r⟩
    · exact .inl h0
    · exact .inr ⟨g, cap, cur, hv, hg', by rw [hg.block g (hne g _ _ _ hh).1 (hne g _ _ _ hh).2]; exact hh, r⟩
  exact ⟨by have hb := h.box; rw [hg.block p.b (hne p.b _ _ _ hb).1 (hne p.b _ _ _ hb).2]; exact hb, own h.nodes, own h.inputs⟩

/-- The map's block is none of the graph's own. -/
theorem map_apart {w : World} {p : Pl} {F H : Bool} {ns : List Nd} {ins : List Int} (h : Lay w p F H ns ins) {mb : Nat} {es : Array MapEntry} {cl : Nat} (hm : w.heap[mb]? = some (.map es cl)) : ¬ p.own mb := by
  rintro (rfl | rfl)
  · rw [h.box] at hm; simp [boxOf] at hm
  · obtain ⟨c, hc⟩ := h.nlen; rw [hc] at hm; cases hm

/-- A node more: what the graph is then. -/
theorem step_node {w w2 w3 w4 : World} {p p' : Pl} {G G' : Gr} {n : Nd} (hG : Is w p G) (hB : Below w.heap.size w w2) (hk : Kept p.own w2 w3) (eb : p'.b = p.b) (ei : p'.iv = p.iv) (em : p'.m = p.m) (hnb : p'.nb = p.nb ∨ w2.heap.size ≤ p'.nb)
    (hk4 : Kept (fun k => p.m = some k) w3 w4) (hl4 : Lay w4 p' G'.fold G'.hash G'.nodes G'.inputs) (hmap : MapIn w4 p'.m G'.hash G'.nodes) : Step p w p' w4 G' := by
  have hs := hB.size
  refine ⟨⟨hl4, hmap⟩, ?_, eb, fun k hp => ?_⟩
  · have h1 : Kept p.has w w2 := Kept.of_below hB
    have h2 : Kept p.has w w3 := h1.trans hk (fun x hx => .inl (by rcases hx with hx | hx; exact .inl hx; exact .inr (.inl hx)))
    exact h2.trans hk4 (fun x hx => .inl (.inr (.inr (.inr hx))))
  · rcases hp with hp | hp | hp | hp
    · exact .inl (.inl (hp.trans eb))
    · rcases hnb with h | h
      · exact .inl (.inr (.inl (hp.trans h)))
      · exact .inr (by omega)
    · rw [ei] at hp; exact .inl (.inr (.inr (.inl hp)))
    · rw [em] at hp; exact .inl (.inr (.inr (.inr hp)))

theorem zero_lit (w : World) : (zeroValue 50).run Try.prog w = .ok (.int .u32 0) w := by kernel_rfl
/-- The look-up. -/
theorem look_map {w : World} {mb n : Nat} {D : DataW Unit} {ns : List Nd} (ho : w.ownsMap Try.prog 96 (plainElem Try.prog 50) mb n D) (hD : MapOf ns D) {a b : Int} (ha : IsLit a) (hb : IsLit b) :
    ∃ c : Int, (∀ i, findG ns a b = some i → c = 2 * (i : Int)) ∧ ∀ w', w'.heap[mb]? = w.heap[mb]? → (Instr.lookup 90 (.map (some mb)) (.agg #[.int .u32 a, .int .u32 b]) true).run Try.prog w' = .ok (.tuple #[.int .u32 c, .bool (findG ns a b).isSome]) w' := by
  have main : ∀ w', w'.heap[mb]? = w.heap[mb]? → ∃ c : Int, D.atKey (pkey a b) (.lit (.int .u32 0)) = .lit (.int .u32 c) ∧ (Instr.lookup 90 (.map (some mb)) (.agg #[.int .u32 a, .int .u32 b]) true).run Try.prog w' = .ok (.tuple #[.int .u32 c, .bool (findG ns a b).isSome]) w' := by
    intro w' hb'
    obtain ⟨v, ps, hrun, hv⟩ := (map_block ho hb').look_ok alaw Try.underlying90 (zero_lit w') (plainElem_int Try.underlying50 (by decide)) (key_pair ha hb)
    obtain ⟨c, rfl, hc, _⟩ := plainElem_int_inv Try.underlying50 hv
    exact ⟨c, congrArg Prod.fst hc, by rw [hrun, (hD.2 a b ha hb).1]⟩
  obtain ⟨c, hc, -⟩ := main w rfl
  refine ⟨c, fun i hi => ?_, fun w' hw' => ?_⟩
  · rw [(hD.2 a b ha hb).2 i hi] at hc
    simp at hc; exact hc.symm
  · obtain ⟨c', hc', hr⟩ := main w' hw'
    rw [hc] at hc'
    simp at hc'
    rw [hr, hc']
theorem look_none {w : World} {a b : Int} (ha : IsLit a) (hb : IsLit b) :
    (Instr.lookup 90 (.map none) (.agg #[.int .u32 a, .int .u32 b]) true).run Try.prog w = .ok (.tuple #[.int .u32 0, .bool false]) w :=
  Maps.look_nil true alaw Try.underlying90 (zero_lit w) (key_pair ha hb)
end Go.Proofs.Ytjdebancpgpebaa
