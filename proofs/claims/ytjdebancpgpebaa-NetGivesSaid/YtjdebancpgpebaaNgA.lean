/-
  What was added: maps of rows and of what registers take, beside a netlist.
-/
import Derived.Test.YtjdebancpgpebaaNwM
import Derived.Maps.RangeWalk
namespace Go.Proofs.Ytjdebancpgpebaa
open Go.RowKit Go.Maps Bits
set_option maxRecDepth 100000

/-- An element, as it is. -/
def tokR (v : Value) : Option (DataW Value × List MemPlace) := some (.held v, [])
theorem tok_inv {v : Value} {y : DataW Value × List MemPlace} (h : tokR v = some y) : y = (.held v, []) := by unfold tokR at h; exact (Option.some.inj h).symm
/-- A map of rows: each bus's literals by its name. -/
structure BusMap (wr : World) (M n : Nat) (D : DataW Value) (L : List Bus) : Prop where
  own : wr.ownsMap Try.prog 9 tokR M n D
  tidy : Tidy D
  has : ∀ s, s.size ≤ maxLen → has D (skey s) = L.any (fun b => sameN b.name s)
  val : ∀ b ∈ L, ∃ (a : Option Addr) (c : Nat), (∀ z, D.atKey (skey b.name) z = .held (.slice a b.lits.length c)) ∧ LRow wr a b.lits.length c b.lits
  size : Maps.size D = L.length
theorem BusMap.nil (w : World) : BusMap (w.alloc (.map #[] 0)) w.heap.size 0 (.map []) [] := ⟨World.ownsMap_made _ _ _ _, tidy_empty, fun s _ => by simp [Maps.has], fun b hb => by simp at hb, rfl⟩
/-- Kept, where its block and rows of literals are. -/
theorem BusMap.kept {F : Nat → Prop} {wr w2 : World} {M n : Nat} {D : DataW Value} {L : List Bus} (h : BusMap wr M n D L) (hk : Kept F wr w2) (hM : ¬ F M) (hL : NoLits wr F) : BusMap w2 M n D L := by
  refine ⟨?_, h.tidy, h.has, fun b hb => ?_, h.size⟩
  · have hl := h.own.lt
    obtain ⟨es, cl, h1, r⟩ := h.own
    exact ⟨es, cl, (hk.block _ hl hM).trans h1, r⟩
  · obtain ⟨a, c, h1, h2⟩ := h.val b hb
    exact ⟨a, c, h1, h2.keptF hk hL⟩
theorem BusMap.below {wr w2 : World} {M n : Nat} {D : DataW Value} {L : List Bus} (h : BusMap wr M n D L) (hb : Below wr.heap.size wr w2) : BusMap w2 M n D L := by
  refine h.kept (F := fun k => wr.heap.size ≤ k) ⟨hb.os, hb.tape, hb.output, hb.size, fun k hk _ => hb.block k hk⟩ (by have := h.own.lt; omega) (fun k cur fz hp hh => by have := (Array.getElem?_eq_some_iff.1 hh).1; omega)
theorem noLits_map {wr : World} {M : Nat} {es : Array MapEntry} {cl : Nat} (h : wr.heap[M]? = some (.map es cl)) : NoLits wr (fun k => some M = some k) := fun k cur fz hp hh => by
  cases hp; rw [h] at hh; cases hh
/-- A bus more. -/
theorem BusMap.put {wr w7 : World} {M n : Nat} {D : DataW Value} {L : List Bus} (h : BusMap wr M n D L) {s : ByteArray} {l : List Int} (hs : s.size ≤ maxLen) (hn : (atB L s).isSome ≠ true) {a : Option Addr} {m c : Nat} (hr : LRow wr a m c l)
    (ho : w7.ownsMap Try.prog 9 tokR M (n + 1) (D.put (skey s) (.held (.slice a m c)))) (hg : wr.grownBy w7 (some M)) : BusMap w7 M (n + 1) (D.put (skey s) (.held (.slice a m c))) (L ++ [⟨s, l⟩]) := by
  have hat := atB_none hn
  have hne : ∀ b ∈ L, skey b.name ≠ skey s := fun b hb e => by
    have := skey_same.1 e; rw [hat b hb] at this; cases this
  obtain ⟨es, cl, h1, -⟩ := h.own
  have hk := kept_grown hg
  have hL := noLits_map h1
  refine ⟨ho, h.tidy.put (skey_key _ hs) _, fun t ht => ?_, fun b hb => ?_, ?_⟩
  · rw [List.any_append]
    by_cases e : skey t = skey s
    · rw [e, has_put_same h.tidy.isMap (skey_key _ hs)]
      have : sameN s t = true := skey_same.1 e.symm
      simp [this]
    · rw [has_put_other e, h.has t ht]
      have : sameN s t = false := by
        cases hh : sameN s t with
        | false => rfl
        | true => exact absurd (skey_same.2 hh).symm e
      simp [this]
  · rcases List.mem_append.1 hb with hb | hb
    · obtain ⟨a', c', e1, e2⟩ := h.val b hb
      exact ⟨a', c', fun z => by rw [atKey_put_other (hne b hb)]; exact e1 z, e2.keptF hk hL⟩
    · simp at hb; subst hb
      have hlen := hr.len
      exact ⟨a, c, fun z => by rw [atKey_put_same h.tidy.isMap (skey_key _ hs)]; simp only [hlen], by simp only [hlen]; exact hr.keptF hk hL⟩
  · rw [size_put h.tidy, h.has s hs, h.size]
    have : L.any (fun b => sameN b.name s) = false := by rw [List.any_eq_false]; intro b hb; simp [hat b hb]
    rw [this]
    simp
/-- What registers take, by their Qs. -/
structure RegMap (wr : World) (M n : Nat) (D : DataW Value) (R : List Rg) : Prop where
  own : wr.ownsMap Try.prog 50 tokR M n D
  tidy : Tidy D
  has : ∀ x, IsLit x → has D (lkey x) = R.any (fun r => r.q == x)
  val : ∀ r ∈ R, IsLit r.q → ∀ z, D.atKey (lkey r.q) z = .held (.agg #[.int .u32 r.d, .int .u32 r.en])
  size : Maps.size D = R.length
theorem RegMap.nil (w : World) : RegMap (w.alloc (.map #[] 0)) w.heap.size 0 (.map []) [] := ⟨World.ownsMap_made _ _ _ _, tidy_empty, fun s _ => by simp [Maps.has], fun b hb => by simp at hb, rfl⟩
theorem RegMap.kept {F : Nat → Prop} {wr w2 : World} {M n : Nat} {D : DataW Value} {R : List Rg} (h : RegMap wr M n D R) (hk : Kept F wr w2) (hM : ¬ F M) : RegMap w2 M n D R := by
  refine ⟨?_, h.tidy, h.has, h.val, h.size⟩
  have hl := h.own.lt
  obtain ⟨es, cl, h1, r⟩ := h.own
  exact ⟨es, cl, (hk.block _ hl hM).trans h1, r⟩
theorem RegMap.below {wr w2 : World} {M n : Nat} {D : DataW Value} {R : List Rg} (h : RegMap wr M n D R) (hb : Below wr.heap.size wr w2) : RegMap w2 M n D R :=
  ⟨omap_below h.own hb, h.tidy, h.has, h.val, h.size⟩
theorem RegMap.put {w7 : World} {wr : World} {M n : Nat} {D : DataW Value} {R : List Rg} (h : RegMap wr M n D R) {x : Int} {i : Bool} (hx : IsLit x) (hn : ∀ r ∈ R, r.q ≠ x)
    (ho : w7.ownsMap Try.prog 50 tokR M (n + 1) (D.put (lkey x) (.held (.agg #[.int .u32 0, .int .u32 0])))) : RegMap w7 M (n + 1) (D.put (lkey x) (.held (.agg #[.int .u32 0, .int .u32 0]))) (R ++ [⟨x, 0, 0, i⟩]) := by
  refine ⟨ho, h.tidy.put (lkey_key hx) _, fun t ht => ?_, fun r hr hq => ?_, ?_⟩
  · rw [List.any_append]
    by_cases e : t = x
    · subst e; rw [has_put_same h.tidy.isMap (lkey_key ht)]; simp
    · rw [has_put_other (lkey_ne e), h.has t ht]
      simp [show ¬ x = t from fun e2 => e e2.symm]
  · rcases List.mem_append.1 hr with hr | hr
    · intro z; rw [atKey_put_other (lkey_ne (hn r hr))]; exact h.val r hr hq z
    · simp at hr; subst hr; intro z; exact atKey_put_same h.tidy.isMap (lkey_key hx) _ _
  · rw [size_put h.tidy, h.has x hx, h.size]
    have : R.any (fun r => r.q == x) = false := by rw [List.any_eq_false]; intro r hr; simp [hn r hr]
    rw [this]; simp
theorem RegMap.set {w7 : World} {wr : World} {M n : Nat} {D : DataW Value} {R : List Rg} (h : RegMap wr M n D R) {x d en : Int} {j : Nat} (hx : IsLit x) (hj : regAt R x = some j) (hd : (R.map (fun r => r.q)).Nodup)
    (ho : w7.ownsMap Try.prog 50 tokR M (n + 1) (D.put (lkey x) (.held (.agg #[.int .u32 d, .int .u32 en])))) : RegMap w7 M (n + 1) (D.put (lkey x) (.held (.agg #[.int .u32 d, .int .u32 en]))) (R.modify j (setRg d en)) := by
  unfold regAt at hj
  obtain ⟨hjl, hq, -⟩ := List.findIdx?_eq_some_iff_getElem.1 hj
  have hq : R[j].q = x := by simpa using hq
  have hmq := modify_q R j d en
  have hany : R.any (fun r => r.q == x) = true := by rw [List.any_eq_true]; exact ⟨R[j], List.getElem_mem _, by simp [hq]⟩
  have anyq : ∀ (A : List Rg) (t : Int), A.any (fun r => r.q == t) = (A.map (fun r => r.q)).any (fun y => y == t) := fun A t => by rw [List.any_map]; rfl
  refine ⟨ho, h.tidy.put (lkey_key hx) _, fun t ht => ?_, fun r hr hrq z => ?_, ?_⟩
  · rw [anyq, hmq, ← anyq]
    by_cases e : t = x
    · subst e; rw [has_put_same h.tidy.isMap (lkey_key ht), hany]
    · rw [has_put_other (lkey_ne e), h.has t ht]
  · obtain ⟨k, hk, rfl⟩ := List.getElem_of_mem hr
    have hk2 : k < R.length := by simpa using hk
    by_cases e : j = k
    · subst e
      have e2 : (R.modify j (setRg d en))[j] = setRg d en R[j] := by simp
      rw [e2]
      show (D.put (lkey x) _).atKey (lkey R[j].q) z = _
      rw [hq]
      exact atKey_put_same h.tidy.isMap (lkey_key hx) _ _
    · have e2 : (R.modify j (setRg d en))[k] = R[k] := by simp [e]
      rw [e2] at hrq ⊢
      have hne : R[k].q ≠ x := by
        intro e3
        have hw := List.pairwise_iff_getElem.1 hd
        by_cases lt : k < j
        · exact hw k j (by simpa using hk2) (by simpa using hjl) lt (by simpa [hq] using e3)
        · exact hw j k (by simpa using hjl) (by simpa using hk2) (by omega) (by simpa [hq] using e3.symm)
      rw [atKey_put_other (lkey_ne hne)]
      exact h.val _ (List.getElem_mem hk2) hrq z
  · rw [size_put h.tidy, h.has x hx, h.size, hany]
    simp
theorem Good.regNodup {N : Nt} {rest : List Int} (hg : Good N rest) : (N.regs.map (fun r => r.q)).Nodup := by
  have := hg.left.nodup
  unfold takenN at this
  exact (List.nodup_append.1 (List.nodup_append.1 this).1).2.1
theorem Good.regLit {N : Nt} {rest : List Int} (hg : Good N rest) (hm : N.g.nodes.length ≤ 200000) : ∀ r ∈ N.regs, IsLit r.q ∧ r.q < 2 * (N.g.nodes.length : Int) := by
  intro r hr
  obtain ⟨i, e, _, h1⟩ := hg.left.lit r.q (by unfold takenN; simp; exact .inr (.inl ⟨r, hr, rfl⟩))
  unfold IsLit; omega
end Go.Proofs.Ytjdebancpgpebaa
