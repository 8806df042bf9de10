/-
  Maps of numbers to numbers: which keys they have, and what stands there.
-/
import Derived.Test.YtocfchgkfaogdaaLvT
import Derived.Maps.OwnOps
import Derived.Maps.OwnSet
import Derived.Lib.SlKeysI
import Derived.Carry
namespace Go.Proofs.Ytocfchgkfaogdaa
open Go.RowKit Go.Maps
set_option maxRecDepth 100000

def ikey (k : Nat) : Lit := .int .i64 (Int.ofNat k)
theorem ikey_inj {a b : Nat} (h : ikey a = ikey b) : a = b := by unfold ikey at h; simp at h; omega
theorem ikey_ne {a b : Nat} (h : ¬ a = b) : ikey a ≠ ikey b := fun e => h (ikey_inj e)
theorem ilaw : Keyed Try.prog 3 := int_keyed Try.underlying3
theorem int_wf {k : Nat} (hk : k ≤ 1000000) : (Lit.int .i64 (k : Int)).wf = true := WalkArith.wf_i64 ⟨by omega, by omega⟩
theorem key_int {k : Nat} (hk : k ≤ 1000000) : keyOf Try.prog 3 (.int .i64 (k : Int)) = some (ikey k) := keyOf_int_mk Try.underlying3 (int_wf hk)
theorem ikey_key {k : Nat} (hk : k ≤ 1000000) : WideAt.IsKeyLit (ikey k) := ilaw.key (key_int hk)
theorem zero_int (w : World) : (zeroValue 3).run Try.prog w = .ok (.int .i64 0) w := by kernel_rfl

def upd {α : Type} (f : Nat → α) (k : Nat) (v : α) : Nat → α := fun j => if j = k then v else f j
theorem upd_same {α : Type} (f : Nat → α) (k : Nat) (v : α) : upd f k v k = v := by simp [upd]
theorem upd_other {α : Type} (f : Nat → α) {k j : Nat} (v : α) (h : ¬ j = k) : upd f k v j = f j := by simp [upd, h]

structure LM (D : DataW Unit) (ks : List Nat) (f : Nat → Int) : Prop where
  tidy : Tidy D
  has : ∀ k, k ≤ 1000000 → has D (ikey k) = decide (k ∈ ks)
  val : ∀ k z, k ≤ 1000000 → k ∈ ks → D.atKey (ikey k) z = .lit (.int .i64 (f k))
  size : Maps.size D = ks.length
  keys : ∀ es, D = .map es → ∀ p ∈ es, ∃ k ∈ ks, p.1 = ikey k
theorem LM.nil (f : Nat → Int) : LM (.map []) [] f := ⟨tidy_empty, fun x _ => by simp [Maps.has], fun x z _ h => by simp at h, rfl, fun es e p hp => by cases e; simp at hp⟩
theorem put_keys {D : DataW Unit} {ks ks' : List Nat} {k : Nat} {d : DataW Unit} (hk : ∀ es, D = .map es → ∀ p ∈ es, ∃ j ∈ ks, p.1 = ikey j) (h1 : k ∈ ks') (h2 : ∀ j ∈ ks, j ∈ ks') : ∀ es, D.put (ikey k) d = .map es → ∀ p ∈ es, ∃ j ∈ ks', p.1 = ikey j := by
  intro es e p hp
  cases D <;> try (simp [DataW.put] at e; done)
  rename_i es0
  simp only [DataW.put, DataW.map.injEq] at e
  subst e
  rcases List.mem_cons.1 ((WideShapes.insert_perm _ _).mem_iff.1 hp) with rfl | hp
  · exact ⟨k, h1, rfl⟩
  · obtain ⟨j, hj, e⟩ := hk _ rfl p (List.mem_filter.1 hp).1
    exact ⟨j, h2 j hj, e⟩
theorem LM.putNew {D : DataW Unit} {ks : List Nat} {f : Nat → Int} (h : LM D ks f) {k : Nat} (hk : k ≤ 1000000) (hn : k ∉ ks) (v : Int) : LM (D.put (ikey k) (.lit (.int .i64 v))) (ks ++ [k]) (upd f k v) := by
  refine ⟨h.tidy.put (ikey_key hk) _, fun y hy => ?_, fun y z hy hm => ?_, ?_, put_keys h.keys (by simp) (fun j hj => by simp [hj])⟩
  · by_cases e : y = k
    · subst e; rw [has_put_same h.tidy.isMap (ikey_key hy)]; simp
    · rw [has_put_other (ikey_ne e), h.has y hy]; simp [e]
  · by_cases e : y = k
    · subst e; rw [upd_same]; exact atKey_put_same h.tidy.isMap (ikey_key hy) _ _
    · rw [atKey_put_other (ikey_ne e), upd_other _ _ e]
      exact h.val y z hy (by simpa [e] using hm)
  · rw [size_put h.tidy, h.has k hk, h.size]
    simp [hn]
theorem LM.putOld {D : DataW Unit} {ks : List Nat} {f : Nat → Int} (h : LM D ks f) {k : Nat} (hk : k ≤ 1000000) (hn : k ∈ ks) (v : Int) : LM (D.put (ikey k) (.lit (.int .i64 v))) ks (upd f k v) := by
  refine ⟨h.tidy.put (ikey_key hk) _, fun y hy => ?_, fun y z hy hm => ?_, ?_, put_keys h.keys hn (fun j hj => hj)⟩
  · by_cases e : y = k
    · subst e; rw [has_put_same h.tidy.isMap (ikey_key hy)]; simp [hn]
    · rw [has_put_other (ikey_ne e), h.has y hy]
  · by_cases e : y = k
    · subst e; rw [upd_same]; exact atKey_put_same h.tidy.isMap (ikey_key hy) _ _
    · rw [atKey_put_other (ikey_ne e), upd_other _ _ e]
      exact h.val y z hy hm
  · rw [size_put h.tidy, h.has k hk, h.size]
    simp [hn]
theorem LM.del {D : DataW Unit} {ks : List Nat} {f : Nat → Int} (h : LM D ks f) (hnd : ks.Nodup) {k : Nat} (hk : k ≤ 1000000) (hn : k ∈ ks) : LM (D.del (ikey k)) (ks.erase k) f := by
  refine ⟨h.tidy.del _, fun y hy => ?_, fun y z hy hm => ?_, ?_, fun es e p hp => ?_⟩
  · by_cases e : y = k
    · subst e; rw [has_del_same]; simp [hnd.mem_erase_iff]
    · rw [has_del_other (ikey_ne e), h.has y hy]; simp [hnd.mem_erase_iff, e]
  · rw [hnd.mem_erase_iff] at hm
    rw [atKey_del_other (ikey_ne hm.1)]
    exact h.val y z hy hm.2
  · have := size_del h.tidy (k := ikey k)
    rw [h.has k hk, h.size] at this
    rw [List.length_erase_of_mem hn]
    simp [hn] at this
    omega
  · obtain ⟨es0, rfl, -⟩ := id h.tidy
    simp only [DataW.del, DataW.map.injEq] at e
    subst e
    obtain ⟨hp1, hp2⟩ := List.mem_filter.1 hp
    obtain ⟨j, hj, e⟩ := h.keys _ rfl p hp1
    refine ⟨j, (hnd.mem_erase_iff).2 ⟨?_, hj⟩, e⟩
    rintro rfl
    rw [e, WideAt.sameKey_self (by unfold WideAt.IsKeyLit; simp [ikey])] at hp2
    simp at hp2
theorem LM.congr {D : DataW Unit} {ks : List Nat} {f g : Nat → Int} (h : LM D ks f) (e : ∀ k ∈ ks, f k = g k) : LM D ks g := ⟨h.tidy, h.has, fun k z hk hm => by rw [h.val k z hk hm, e k hm], h.size, h.keys⟩
/-- Such a map, in a world. -/
def LMap (w : World) (b : Nat) (ks : List Nat) (f : Nat → Int) : Prop := ∃ D, w.ownsMap Try.prog 3 (plainElem Try.prog 3) b ks.length D ∧ LM D ks f
theorem own_tight {w : World} {b n : Nat} {D : DataW Unit} (h : w.ownsMap Try.prog 3 (plainElem Try.prog 3) b n D) {m : Nat} (e : Maps.size D = m) : w.ownsMap Try.prog 3 (plainElem Try.prog 3) b m D := by
  obtain ⟨es, cl, hb, F, hs, rfl⟩ := h
  refine ⟨es, cl, hb, F, ?_, rfl⟩
  rw [← e]; simp [Maps.size, length_sorted]
theorem LMap.of {w : World} {b n : Nat} {D : DataW Unit} {ks : List Nat} {f : Nat → Int} (h : w.ownsMap Try.prog 3 (plainElem Try.prog 3) b n D) (hD : LM D ks f) : LMap w b ks f := ⟨D, own_tight h hD.size, hD⟩
theorem LMap.lt {w : World} {b : Nat} {ks : List Nat} {f : Nat → Int} (h : LMap w b ks f) : b < w.heap.size := by obtain ⟨D, ho, -⟩ := h; exact ho.lt
theorem LMap.block {w w2 : World} {b : Nat} {ks : List Nat} {f : Nat → Int} (h : LMap w b ks f) (hb : w2.heap[b]? = w.heap[b]?) : LMap w2 b ks f := by
  obtain ⟨D, ⟨es, cl, h1, r⟩, h2⟩ := h
  exact ⟨D, ⟨es, cl, hb.trans h1, r⟩, h2⟩
theorem LMap.obj {w : World} {b : Nat} {ks : List Nat} {f : Nat → Int} (h : LMap w b ks f) : ∃ es cl, w.heap[b]? = some (.map es cl) := by
  obtain ⟨D, ⟨es, cl, h1, r⟩, h2⟩ := h
  exact ⟨es, cl, h1⟩
theorem LMap.step {w w2 : World} {b : Nat} {ks : List Nat} {f : Nat → Int} (h : LMap w b ks f) (hb : Below w.heap.size w w2) : LMap w2 b ks f := h.block (hb.block _ h.lt)
theorem LMap.look {w : World} {b : Nat} {ks : List Nat} {f : Nat → Int} (h : LMap w b ks f) {k : Nat} (hk : k ≤ 1000000) (hm : k ∈ ks) : (Instr.lookup 54 (.map (some b)) (.int .i64 (k : Int)) false).run Try.prog w = .ok (.int .i64 (f k)) w := by
  obtain ⟨D, ho, hD⟩ := h
  obtain ⟨c, hrun, hat, -⟩ := ho.lookup_int ilaw Try.underlying54 Try.underlying3 (zero_int w) (key_int hk)
  rw [hD.val k _ hk hm] at hat
  simp at hat
  rw [hrun, ← hat]
theorem LMap.len {w : World} {b : Nat} {ks : List Nat} {f : Nat → Int} (h : LMap w b ks f) (ty : TypeId) : (Builtin.len_ #[54] ty #[.map (some b)]).run Try.prog w = .ok (.int .i64 ks.length) w := by
  obtain ⟨D, ho, hD⟩ := h
  rw [ho.len Try.underlying54 ty, hD.size]
theorem LMap.made (w : World) (f : Nat → Int) : LMap (w.alloc (.map #[] 0)) w.heap.size [] f := ⟨.map [], World.ownsMap_made w _ _ _, LM.nil f⟩
theorem mem_intKeys {D : DataW Unit} {ks : List Nat} {f : Nat → Int} (h : LM D ks f) (hb : ∀ k ∈ ks, k ≤ 1000000) (x : Int) : x ∈ intKeys D ↔ ∃ k ∈ ks, x = (k : Int) := by
  obtain ⟨es, rfl, -⟩ := id h.tidy
  have hk := h.keys es rfl
  constructor
  · intro hx
    obtain ⟨p, hp, rfl⟩ := List.mem_map.1 (show x ∈ es.map fun p => Go.intOf p.1 from hx)
    obtain ⟨k, hk1, e⟩ := hk p hp
    exact ⟨k, hk1, by rw [e]; rfl⟩
  · rintro ⟨k, hk1, rfl⟩
    have h1 := h.has k (hb k hk1)
    rw [has_eq] at h1
    have h2 : (es.any fun p => p.1.sameKey (ikey k)) = true := by rw [h1]; simpa using hk1
    obtain ⟨p, hp, hs⟩ := List.any_eq_true.1 h2
    obtain ⟨j, -, e⟩ := hk p hp
    refine List.mem_map.2 ⟨p, hp, ?_⟩
    rw [e] at hs ⊢
    have : j = k := by have := hs; simp [ikey, Lit.sameKey] at this; omega
    subst this
    rfl
end Go.Proofs.Ytocfchgkfaogdaa
