/-
  Squares, plainly: 64 rows of numbers; halves that change places.
-/
import Derived.Test.YtnhpjacodhdpeaaDoorNum
import Derived.Test.YtnhpjacodhdpeaaDoorExt
import Derived.Deep.WholeRow
namespace Go.Proofs.YtnhpjacodhdpeaaDoor
open Go.RowKit

/-- An array of 64 words. -/
def sqA (f : Nat → Nat) : Array Value := ((List.range 64).map (fun i => Value.int .u64 (f i : Nat))).toArray
theorem sqA_size (f : Nat → Nat) : (sqA f).size = 64 := by simp [sqA]
theorem sqA_get (f : Nat → Nat) (i : Nat) (h : i < 64) : (sqA f)[i]? = some (.int .u64 (f i : Nat)) := by simp [sqA, h]
theorem sqA_congr {f g : Nat → Nat} (h : ∀ i, i < 64 → f i = g i) : sqA f = sqA g := by
  unfold sqA
  congr 1
  apply List.map_congr_left
  intro i hi
  rw [h i (by simpa using hi)]
theorem sqA_one (f : Nat → Nat) : (sqA f).all (·.oneCell') = true := by
  rw [Array.all_eq_true_iff_forall_mem]
  intro x hx
  simp [sqA] at hx
  obtain ⟨i, _, rfl⟩ := hx
  rfl
/-- One row written anew. -/
def upd (f : Nat → Nat) (i v : Nat) : Nat → Nat := fun j => if j = i then v else f j
theorem sqA_set (f : Nat → Nat) (i v : Nat) (h : i < 64) : (sqA f).setIfInBounds i (.int .u64 (v : Nat)) = sqA (upd f i v) := by
  apply Array.ext_getElem?
  intro j
  rw [Array.getElem?_setIfInBounds]
  by_cases e : i = j
  · subst e
    rw [if_pos rfl, if_pos (by rw [sqA_size]; exact h), sqA_get _ _ h, show upd f i v i = v from if_pos rfl]
  · by_cases hj : j < 64
    · rw [sqA_get _ _ hj, sqA_get _ _ hj]; simp [e, upd, show ¬ j = i from fun x => e x.symm]
    · simp [e, sqA, hj]

/-- A block that has a square. -/
def Blk (w : World) (b : Nat) (f : Nat → Nat) : Prop := w.heap[b]? = some (.cells (sqA f) 163 (0, 0))
theorem Blk.lt {w : World} {b : Nat} {f : Nat → Nat} (h : Blk w b f) : b < w.heap.size := (Array.getElem?_eq_some_iff.1 h).1
theorem Blk.step {W w1 : World} {b : Nat} {f : Nat → Nat} (h : Blk W b f) (hb : Below W.heap.size W w1) : Blk w1 b f := by
  unfold Blk; rw [hb.block b h.lt]; exact h
theorem Blk.cell {w : World} {b : Nat} {f : Nat → Nat} (h : Blk w b f) {i : Nat} (hi : i < 64) : w.cell? ⟨b, i, none⟩ = some (.int .u64 (f i : Nat)) := by
  rw [cell_of_row w b i _ _ _ h, sqA_get _ _ hi]
theorem Blk.thaw {w : World} {b : Nat} {f : Nat → Nat} (h : Blk w b f) (i : Nat) : w.frozen? ⟨b, i, none⟩ = false := frozen_of_row w b i _ _ h
theorem Blk.set {w : World} {b : Nat} {f : Nat → Nat} (h : Blk w b f) {i v : Nat} (hi : i < 64) : Blk (w.setCell ⟨b, i, none⟩ (.int .u64 (v : Nat))) b (upd f i v) := by
  unfold Blk; rw [setCell_eq_setRow w b i _ _ _ _ h, setRow_heap w b _ _ _ _ h, sqA_set _ _ _ hi]
theorem Blk.other {w : World} {b : Nat} {f : Nat → Nat} (h : Blk w b f) {a : Addr} (hne : b ≠ a.block) (v : Value) : Blk (w.setCell a v) b f := by
  unfold Blk; simp only [World.setCell, Array.getElem?_modify]; rw [if_neg (fun e => hne e.symm)]; exact h
theorem Blk.drew {w : World} {b : Nat} {f : Nat → Nat} (h : Blk w b f) : Blk w.drew b f := h
theorem Blk.new (w : World) (f : Nat → Nat) : Blk (w.alloc (.cells (sqA f) 163)) w.heap.size f := heap_alloc_new w _
theorem Blk.old {w : World} {b : Nat} {f : Nat → Nat} (h : Blk w b f) (o : Obj) : Blk (w.alloc o) b f := by
  unfold Blk; show (w.heap.push o)[b]? = _; rw [Array.getElem?_push, if_neg (Nat.ne_of_lt h.lt)]; exact h

theorem Blk.drewN {w : World} {b : Nat} {f : Nat → Nat} (h : Blk w b f) (n : Nat) : Blk (w.drewN n) b f := by unfold Blk at h ⊢; simpa using h
theorem below_drewN (w : World) (n : Nat) : Below w.heap.size w (w.drewN n) := ⟨rfl, rfl, rfl, Nat.le_refl _, fun _ _ => rfl⟩

/-- Where two quarters differ. -/
def differ (f : Nat → Nat) (half near i : Nat) : Nat := ((f i / 2 ^ half) ^^^ f (i + half)) &&& near
/-- A row of a square, its halves changed about. -/
def halvesN (f : Nat → Nat) (half near i : Nat) : Nat :=
  if i &&& half = 0 then f i ^^^ (differ f half near i * 2 ^ half % 18446744073709551616) else f i ^^^ differ f half near (i - half)
/-- As far as row n. -/
def halves (f : Nat → Nat) (half near n : Nat) (i : Nat) : Nat :=
  if (if i &&& half = 0 then i else i - half) < n then halvesN f half near i else f i

def Half (half : Nat) : Prop := half = 32 ∨ half = 16 ∨ half = 8 ∨ half = 4 ∨ half = 2 ∨ half = 1

theorem half_in {half : Nat} (h : Half half) : ∀ i, i < 64 → i &&& half = 0 → i + half < 64 ∧ (i + half) &&& half ≠ 0 := by
  rcases h with rfl | rfl | rfl | rfl | rfl | rfl <;> decide +kernel
theorem half_out {half : Nat} (h : Half half) : ∀ i, i < 64 → i &&& half ≠ 0 → half ≤ i ∧ (i - half) &&& half = 0 := by
  rcases h with rfl | rfl | rfl | rfl | rfl | rfl <;> decide +kernel
theorem half_pos {half : Nat} (h : Half half) : 1 ≤ half ∧ half ≤ 32 := by rcases h with rfl | rfl | rfl | rfl | rfl | rfl <;> decide

theorem halves_zero (f : Nat → Nat) (half near : Nat) : halves f half near 0 = f := by funext i; unfold halves; rw [if_neg (by omega)]
theorem halves_skip {f : Nat → Nat} {half near n : Nat} (hh : Half half) (hn : n < 64) (h : ¬ n &&& half = 0) : sqA (halves f half near (n + 1)) = sqA (halves f half near n) := by
  apply sqA_congr
  intro i hi
  unfold halves
  by_cases hi0 : i &&& half = 0
  · rw [if_pos hi0]
    have : i ≠ n := fun e => h (e ▸ hi0)
    by_cases hlt : i < n
    · rw [if_pos hlt, if_pos (by omega)]
    · rw [if_neg hlt, if_neg (by omega)]
  · rw [if_neg hi0]
    have := half_out hh i hi hi0
    have : i - half ≠ n := fun e => h (e ▸ this.2)
    by_cases hlt : i - half < n
    · rw [if_pos hlt, if_pos (by omega)]
    · rw [if_neg hlt, if_neg (by omega)]
theorem halves_do {f : Nat → Nat} {half near n : Nat} (hh : Half half) (hn : n < 64) (h : n &&& half = 0) :
    sqA (halves f half near (n + 1)) = sqA (upd (upd (halves f half near n) n (f n ^^^ (differ f half near n * 2 ^ half % 18446744073709551616))) (n + half) (f (n + half) ^^^ differ f half near n)) := by
  have hp := half_pos hh
  have hin := half_in hh n hn h
  apply sqA_congr
  intro i hi
  by_cases e1 : i = n + half
  · subst e1
    unfold upd halves halvesN
    rw [if_neg hin.2, if_pos (by omega), if_neg hin.2, if_pos rfl, show n + half - half = n by omega]
  · by_cases e2 : i = n
    · subst e2
      unfold upd halves halvesN
      rw [if_pos h, if_pos (by omega), if_pos h, if_neg (by omega), if_pos rfl]
    · unfold upd
      rw [if_neg e1, if_neg e2]
      unfold halves
      by_cases hi0 : i &&& half = 0
      · rw [if_pos hi0]
        by_cases hlt : i < n
        · rw [if_pos hlt, if_pos (by omega)]
        · rw [if_neg hlt, if_neg (by omega)]
      · rw [if_neg hi0]
        have := half_out hh i hi hi0
        by_cases hlt : i - half < n
        · rw [if_pos hlt, if_pos (by omega)]
        · rw [if_neg hlt, if_neg (by omega)]
theorem halves_all {f : Nat → Nat} {half near : Nat} (hh : Half half) : sqA (halves f half near 64) = sqA (halvesN f half near) := by
  apply sqA_congr
  intro i hi
  unfold halves
  by_cases h : i &&& half = 0
  · rw [if_pos h, if_pos (by omega)]
  · rw [if_neg h, if_pos (by omega)]
theorem halves_here {f : Nat → Nat} {half near n : Nat} (h : n &&& half = 0) : halves f half near n n = f n := by unfold halves; rw [if_pos h, if_neg (by omega)]
theorem halves_there {f : Nat → Nat} {half near n : Nat} (hh : Half half) (hn : n < 64) (h : n &&& half = 0) : halves f half near n (n + half) = f (n + half) := by
  unfold halves; rw [if_neg (half_in hh n hn h).2, if_neg (by omega)]

theorem and64n {a b : Nat} (ha : a < 18446744073709551616) (hb : b < 18446744073709551616) : bits .and .u64 (a : Int) (b : Int) = ((a &&& b : Nat) : Int) := by
  rw [Num.and64 (by omega) (by omega) (by omega) (by omega), Int.toNat_natCast, Int.toNat_natCast]
theorem or64n {a b : Nat} (ha : a < 18446744073709551616) (hb : b < 18446744073709551616) : bits .or .u64 (a : Int) (b : Int) = ((a ||| b : Nat) : Int) := by
  rw [Num.or64 (by omega) (by omega) (by omega) (by omega), Int.toNat_natCast, Int.toNat_natCast]
theorem xor64n {a b : Nat} (ha : a < 18446744073709551616) (hb : b < 18446744073709551616) : bits .xor .u64 (a : Int) (b : Int) = ((a ^^^ b : Nat) : Int) := by
  rw [Num.xor64 (by omega) (by omega) (by omega) (by omega), Int.toNat_natCast, Int.toNat_natCast]
theorem andI64n {a b : Nat} (ha : a < 9223372036854775808) (hb : b < 9223372036854775808) : bits .and .i64 (a : Int) (b : Int) = ((a &&& b : Nat) : Int) := by
  show IntKind.i64.wrap ((BitVec.ofInt 64 (a : Int) &&& BitVec.ofInt 64 (b : Int)).toNat : Int) = _
  rw [BitVec.toNat_and, Num.of64 (by omega) (by omega), Num.of64 (by omega) (by omega), Int.toNat_natCast, Int.toNat_natCast, IntKind.wrap_i64]
  have : a &&& b < 2 ^ 63 := Nat.and_lt_two_pow _ (by omega)
  omega
theorem lt_xor {a b : Nat} (ha : a < 18446744073709551616) (hb : b < 18446744073709551616) : a ^^^ b < 18446744073709551616 := Nat.xor_lt_two_pow (n := 64) ha hb
theorem lt_and {a b : Nat} (hb : b < 18446744073709551616) : a &&& b < 18446744073709551616 := Nat.and_lt_two_pow (n := 64) a hb
theorem lt_div {a : Nat} (k : Nat) (ha : a < 18446744073709551616) : a / k < 18446744073709551616 := Nat.lt_of_le_of_lt (Nat.div_le_self _ _) ha
theorem differ_lt {f : Nat → Nat} {half near i : Nat} (hn : near < 18446744073709551616) : differ f half near i < 18446744073709551616 := lt_and hn
theorem halvesN_lt {f : Nat → Nat} {half near : Nat} (hf : ∀ i, f i < 18446744073709551616) (hn : near < 18446744073709551616) (i : Nat) : halvesN f half near i < 18446744073709551616 := by
  unfold halvesN; split
  · exact lt_xor (hf i) (Nat.mod_lt _ (by decide))
  · exact lt_xor (hf i) (differ_lt hn)

/-- What the walk meets: where they differ, and both rows written anew. -/
theorem differ_walk {x y half near : Nat} (hx : x < 18446744073709551616) (hy : y < 18446744073709551616) (hn : near < 18446744073709551616) :
    bits .and .u64 (bits .xor .u64 ((x : Int) / 2 ^ half) (y : Int)) (near : Int) = ((((x / 2 ^ half) ^^^ y) &&& near : Nat) : Int) := by
  have e : (x : Int) / 2 ^ half = ((x / 2 ^ half : Nat) : Int) := by rw [Int.natCast_ediv, Int.natCast_pow]; rfl
  rw [e, xor64n (lt_div _ hx) hy, and64n (lt_xor (lt_div _ hx) hy) hn]
theorem near_walk {x d half : Nat} (hx : x < 18446744073709551616) :
    bits .xor .u64 (x : Int) (IntKind.u64.wrap ((d : Int) * 2 ^ half)) = ((x ^^^ (d * 2 ^ half % 18446744073709551616) : Nat) : Int) := by
  have e : IntKind.u64.wrap ((d : Int) * 2 ^ half) = ((d * 2 ^ half % 18446744073709551616 : Nat) : Int) := by rw [Num.w64, Int.natCast_emod, Int.natCast_mul, Int.natCast_pow]; rfl
  rw [e, xor64n hx (Nat.mod_lt _ (by decide))]
end Go.Proofs.YtnhpjacodhdpeaaDoor
