/-
  Numbers as text to the base 16.
  What a row's condition says of the table of trailing zeros; a world that meets it.
  The library's contracts laid at this program's numbers (written by wip/tools/shelf2.py for one seat).
-/
import Derived.Test.YtnhpjacodhdpeaaDoorFEKD
import Derived.Test.YtnhpjacodhdpeaaDoorRows
import Derived.LaidSub
import Derived.LaidMore
import Derived.LaidLaws
import Derived.LaidHandle
import Derived.Lib.LaidTab
import Derived.Stop.Joined
import Derived.ProofKit
import Derived.Test.YtnhpjacodhdpeaaDoorProg
import Derived.Shelf.Strconv.Itoa3
import Derived.Shelf.Strings.OnBuilder
section
namespace Go.Proofs.YtnhpjacodhdpeaaDoor
open Go.RowKit Go.Maps Bits
set_option maxRecDepth 100000

/-- What the table of trailing zeros says of 16. -/
def TZ (w : World) : Prop := w.cell? ⟨3, 15, none⟩ = some (.int .u8 4)
theorem TZ.lt {w : World} (h : TZ w) : 3 < w.heap.size := World.block_lt_of_cell? w _ h
theorem TZ.step {w w' : World} (h : TZ w) (hb : Below w.heap.size w w') : TZ w' := stepc hb h.lt h
theorem TZ.upto {B : Nat} {w w' : World} (h : TZ w) (hb : Below B w w') (hB : 3 < B) : TZ w' := by
  unfold TZ; rw [hb.cell (p := ⟨3, 15, none⟩) hB]; exact h

theorem tz_any {w : World} (h : TZ w) : Calls Tryd.prog 164 #[.int .u64 16] w fun e w' => e = .returned (.int .i64 4) ∧ w = w' := by
  have h64 : Hid (Calls Tryd.prog 173 #[.int .u64 16] w fun e w' => e = .returned (.int .i64 4) ∧ w = w') := by
    show Calls _ _ _ _ _
    unfold TZ at h
    go_enter Tryd.func173, Tryd.ntmps173
    have e1 : IntKind.u64.wrap (-16) = 18446744073709551600 := by decide
    have e2 : bits .and .u64 16 18446744073709551600 = 16 := by decide +kernel
    have e3 : IntKind.u64.wrap 4573923408821661840 = 4573923408821661840 := by decide
    have e4 : IntKind.u64.wrap (16 * 285870213051353865) = 4573923408821661840 := by decide
    go_wp2
    go_ret
    exact ⟨rfl, rfl⟩
  go_enter Tryd.func164, Tryd.ntmps164
  go_wp2_with (go_at_call 173; (with_reducible refine h64.out.mono ?_); rintro e w2 ⟨rfl, rfl⟩)
  go_ret
  exact ⟨rfl, rfl⟩
theorem pow2_any (w : World) : Calls Tryd.prog 163 #[.int .i64 16] w fun e w' => e = .returned (.bool true) ∧ w = w' := by
  go_enter Tryd.func163, Tryd.ntmps163
  go_wp2
  go_ret
  exact ⟨rfl, rfl⟩

def T65 : Nat := 239
theorem info_65 : (Tryd.prog.info? 239).map (fun i => (i.zero, i.size)) = some (some (.agg (bys (List.replicate 65 0)).toArray), 65) := by kernel_rfl
/-- An array of 65 bytes. -/
structure A65 (w : World) (b : Nat) (cs : List UInt8) : Prop where
  blk : w.heap[b]? = some (.cells (bys cs).toArray 239 (0, 0))
  len : cs.length = 65
section
variable {w w' : World} {b : Nat} {cs : List UInt8}
theorem A65.lt (h : A65 w b cs) : b < w.heap.size := (Array.getElem?_eq_some_iff.1 h.blk).1
theorem A65.step (h : A65 w b cs) (hb : Below w.heap.size w w') : A65 w' b cs := ⟨(hb.block b h.lt).trans h.blk, h.len⟩
theorem A65.thaw (h : A65 w b cs) (i : Nat) : w.frozen? ⟨b, i, none⟩ = false := frozen_of_row w b i _ _ h.blk
theorem A65.cell (h : A65 w b cs) {i : Nat} (hi : i < 65) : w.cell? ⟨b, i, none⟩ = some (.int .u8 ((cs.getD i 0).toNat : Int)) := by
  have := h.len
  rw [cell_of_row w b i _ _ _ h.blk]
  simp [bys, List.getD, show i < cs.length by omega]
theorem A65.set (h : A65 w b cs) {i : Nat} {v : UInt8} (hi : i < 65) : A65 (w.setCell ⟨b, i, none⟩ (.int .u8 (v.toNat : Int))) b (cs.set i v) := by
  refine ⟨?_, by rw [List.length_set]; exact h.len⟩
  have := h.len
  rw [setCell_eq_setRow w b i _ _ _ _ h.blk, setRow_heap w b _ _ _ _ h.blk]
  simp [bys, List.map_set]
end
theorem dig_at (d : Nat) (h : d < 16) (W : World) : (Instr.index 9 (.string { data := #[48, 49, 50, 51, 52, 53, 54, 55, 56, 57, 97, 98, 99, 100, 101, 102, 103, 104, 105, 106, 107, 108, 109, 110, 111, 112, 113, 114, 115, 116, 117, 118, 119, 120, 121, 122] }) (.int .u64 (d : Int))).run Tryd.prog W = .ok (.int .u8 ((hx d).toNat : Int)) W := by
  rcases (show d = 0 ∨ d = 1 ∨ d = 2 ∨ d = 3 ∨ d = 4 ∨ d = 5 ∨ d = 6 ∨ d = 7 ∨ d = 8 ∨ d = 9 ∨ d = 10 ∨ d = 11 ∨ d = 12 ∨ d = 13 ∨ d = 14 ∨ d = 15 by omega) with rfl | rfl | rfl | rfl | rfl | rfl | rfl | rfl | rfl | rfl | rfl | rfl | rfl | rfl | rfl | rfl <;> kernel_rfl
theorem and15 (u : Nat) (h : u < 18446744073709551616) : bits .and .u64 (u : Int) 15 = ((u % 16 : Nat) : Int) := by
  rw [Num.and64 (by omega) (by omega) (by decide) (by decide), show (15 : Int).toNat = 2 ^ 4 - 1 from rfl, Nat.and_two_pow_sub_one_eq_mod]
  simp

/-- How far the digits are: y is left, and 65 - m are written. -/
structure Hex (u m y : Nat) : Prop where
  eq : y = u / 16 ^ (65 - m)
  num : nHex u = 65 - m + nHex y
  lo : 50 ≤ m
theorem Hex.start {u : Nat} (hu : u < 18446744073709551616) : Hex u 65 u := ⟨by simp, by simp, by omega⟩
structure HexN (u p y : Nat) : Prop where
  next : Hex u p (y / 16)
  cells : ∀ {cs : List UInt8}, cs.drop (p + 1) = hexA (65 - (p + 1)) u → cs.length = 65 → (cs.set p (hx (y % 16))).drop p = hexA (65 - p) u
theorem set_drop {cs : List UInt8} {p : Nat} (v : UInt8) (h : p < cs.length) : (cs.set p v).drop p = v :: cs.drop (p + 1) := by
  rw [List.drop_eq_getElem_cons (by simpa using h)]
  simp [List.drop_set]
theorem Hex.digit {u p y : Nat} (h : Hex u (p + 1) y) (hm : p + 1 ≤ 65) {cs : List UInt8} (hc : cs.drop (p + 1) = hexA (65 - (p + 1)) u) (hl : cs.length = 65) : (cs.set p (hx (y % 16))).drop p = hexA (65 - p) u := by
  rw [set_drop _ (by omega), hc, show 65 - p = 65 - (p + 1) + 1 by omega, hexA_front, h.eq]
theorem Hex.use {u m y : Nat} (h : Hex u m y) (hu : u < 18446744073709551616) (hm : m ≤ 65) :
    y < 18446744073709551616 ∧ (16 ≤ y → 50 ≤ m - 1 ∧ HexN u (m - 1) y) ∧ (y < 16 → nHex u = 65 - m + 1) := by
  obtain ⟨e, n, lo⟩ := h
  refine ⟨?_, ?_, ?_⟩
  · rw [e]; exact Nat.lt_of_le_of_lt (Nat.div_le_self _ _) hu
  · intro h16
    have h1 : 16 ^ (65 - m + 1) ≤ u := by
      rw [Nat.pow_succ, Nat.mul_comm]
      have := (Nat.le_div_iff_mul_le (Nat.pow_pos (by decide))).1 (e ▸ h16)
      exact this
    have h2 : 65 - m + 1 < 16 := by
      rcases Nat.lt_or_ge (65 - m + 1) 16 with h3 | h3
      · exact h3
      · have := Nat.pow_le_pow_right (show 0 < 16 by decide) h3
        have h4 : (16 : Nat) ^ 16 = 18446744073709551616 := by decide
        omega
    refine ⟨by omega, ⟨?_, ?_, by omega⟩, ?_⟩
    · rw [e, Nat.div_div_eq_div_mul, ← Nat.pow_succ]; congr 2; omega
    · rw [n, nHex_big (by omega : ¬ y < 16)]; omega
    · intro cs hc hl
      obtain ⟨p, rfl⟩ : ∃ p, m = p + 1 := ⟨m - 1, by omega⟩
      exact Hex.digit ⟨e, n, lo⟩ hm hc hl
  · intro h; rw [n, nHex_small h]

theorem slice65 (b : Nat) {p : Nat} (h : p < 65) (W : World) : (Instr.sliceAt 239 (.pointer (some ⟨b, 0, none⟩)) (some (.int .i64 (p : Int))) none none).run Tryd.prog W = .ok (.slice (some ⟨b, p, none⟩) (65 - p) (65 - p)) W := by
  have hal : Tryd.prog.arrayLen 239 = 65 := by simp [Program.arrayLen, Tryd.underlying239]
  have hel : Tryd.prog.elem 239 = 5 := by kernel_rfl
  have hso : (sizeOf 5).run Tryd.prog W = .ok 1 W := by kernel_rfl
  rw [run_sliceAt_array_l W _ _ (by rw [hal, hel]; exact Tryd.underlying239) _ _ (by omega) (by rw [hal]; omega), hal, hel, hso]
  simp only [Result.andThen]
  simp [slicedAt, Addr.add, show ¬ 65 = p by omega]
  omega
theorem shr16 (y : Nat) (W : World) : (binOp .shr 46 (.int .u64 (y : Int)) (.int .u64 4)).run Tryd.prog W = .ok (.int .u64 ((y / 16 : Nat) : Int)) W := by
  rw [binOp_shr, shift_shr_u64 _ _ _ (by decide) (by decide)]
  simp
set_option maxHeartbeats 4000000 in
theorem bits16_any {w : World} {base : Nat} {v : Value} {t : List UInt8} (h : TX w base v t) (hb : base ≤ w.heap.size) (ht : t.length ≤ 100000000) (hz : TZ w) (u : Nat) (hu : u < 18446744073709551616) :
    Calls Tryd.prog 134 #[v, .int .u64 u, .int .i64 16, .bool false, .bool true] w fun e w' => ∃ v', e = .returned (.tuple #[v', .string ByteArray.empty]) ∧ TX w' base v' (t ++ hexD u) ∧ Below base w w' := by
  obtain ⟨i0, hin, hz0, hz1, hz2⟩ := info_parts info_u8t
  obtain ⟨hzz, hss⟩ := zero_of_info info_65
  have H := Lib.hid h
  have hp2 := Lib.hid (fun w => pow2_any w)
  have htz := Lib.hid (fun w' (hb : Below w.heap.size w w') => tz_any (hz.step hb))
  have hall := Lib.hid (show Below w.heap.size w (w.alloc (.cells (bys (List.replicate 65 0)).toArray 239)) from (Below.refl _ _).alloc (Nat.le_refl _) _)
  have hnew : Hid (A65 (w.alloc (.cells (bys (List.replicate 65 0)).toArray 239)) w.heap.size (List.replicate 65 0)) := Lib.hid ⟨heap_alloc_new w _, by simp⟩
  clear h hz
  generalize (bys (List.replicate 65 0)).toArray = Z at *
  go_enter Tryd.func134, Tryd.ntmps134
  go_wp2_with (first
    | (go_at_call 163; (with_reducible refine (hp2.out _).mono ?_); rintro e w2 ⟨rfl, rfl⟩)
    | (go_at_call 164; (with_reducible refine (htz.out _ hall.out).mono ?_); rintro e w2 ⟨rfl, rfl⟩))
  clear hp2 htz hzz hss
  have hall0 := hall
  clear hall
  generalize w.alloc (.cells Z 239) = wa at *
  go_loopw [13, 1] (fun i x wr => ∃ m y : Nat, 50 ≤ m ∧ m ≤ 65 ∧ i = .int .i64 (m : Int) ∧ x = .int .u64 (y : Int) ∧ Hid (Hex u m y) ∧ Hid (∃ cs, A65 wr w.heap.size cs ∧ cs.drop m = hexA (65 - m) u) ∧ Hid (Below w.heap.size w wr)) (fun _ x _ => (intOf x).toNat)
  case atStart => exact ⟨65, u, by omega, by omega, rfl, rfl, Lib.hid (Hex.start hu), Lib.hid ⟨_, hnew.out, by simp [hexA]⟩, hall0⟩
  case round =>
    clear hnew hall0
    obtain ⟨m, y, hm1, hm2, rfl, rfl, hy, ha, hB⟩ := hrel
    obtain ⟨cs, hA0, hcs0⟩ := ha.out
    have hA := Lib.hid hA0
    have hcs := Lib.hid hcs0
    clear hA0 hcs0
    obtain ⟨hyl, hnx, hlast⟩ := hy.out.use hu hm2
    clear ha
    obtain ⟨p, rfl⟩ : ∃ p, m = p + 1 := ⟨m - 1, by omega⟩
    have hpm : ((p + 1 : Nat) : Int) - 1 = (p : Int) := by omega
    have hpl : p < 65 := by omega
    have hyd := hy
    clear hy
    have hc0 := hA.out.cell hpl
    have hf0 := hA.out.thaw p
    have hbl := hA.out.lt
    by_cases h16 : 16 ≤ y
    · have g : (16 : Int) ≤ y := by omega
      have hand := and15 y hyl
      obtain ⟨h50, hx2⟩ := hnx h16
      have hst := Lib.hid (hA.out.set (v := hx (y % 16)) hpl)
      have hdl := dig_at (y % 16) (by omega)
      have hcs2 : Hid ((cs.set p (hx (y % 16))).drop p = hexA (65 - p) u) := Lib.hid (hx2.cells hcs.out hA.out.len)
      have hbs := Lib.hid (show Below w.heap.size wr (wr.setCell ⟨w.heap.size, p, none⟩ (.int .u8 ((hx (y % 16)).toNat : Int))) from (Below.refl _ _).setCell (p := ⟨w.heap.size, p, none⟩) (Nat.le_refl _) _)
      have hx3 := Lib.hid hx2.next
      clear hx2 hnx hlast hcs hA hyd
      generalize hd : y % 16 = d at *
      generalize (hx d) = dd at *
      have hd2 : (y : Int) % 16 = d := by omega
      clear hd
      have hx4 : Hid (Hex u p (y / 16)) := Lib.hid (by simpa using hx3.out)
      clear hx3
      have hsr : ∀ W, (binOp .shr 46 (.int .u64 (y : Int)) (.int .u64 4)).run Tryd.prog W = .ok (.int .u64 ((y / 16 : Nat) : Int)) W := fun W => shr16 y W
      have hzl : y / 16 < y := by omega
      generalize hyz : y / 16 = z at *
      have hzI : (y : Int) / 16 = z := by omega
      clear hyz
      go_wp2
      refine ⟨⟨p, z, by omega, by omega, rfl, rfl, hx4, Lib.hid ⟨_, hst.out, hcs2.out⟩, Lib.hid (hB.out.trans hbs.out)⟩, ?_⟩
      simp [intOf]; omega
    · have g : (y : Int) < 16 := by omega
      have g2 : decide ((16 : Int) ≤ y) = false := by simp; omega
      have hsl := slice65 (w.heap.size) hpl
      have hal : Tryd.prog.arrayLen 239 = 65 := by simp [Program.arrayLen, Tryd.underlying239]
      have hnum := hlast (by omega)
      have hst := Lib.hid (hA.out.set (v := hx (y % 16)) hpl)
      have hdl := dig_at (y % 16) (by omega)
      rw [show y % 16 = y by omega] at hdl hst
      have hcs2 : Hid ((cs.set p (hx y)).drop p = hexD u) := Lib.hid (by
        have := hyd.out.digit hm2 hcs.out hA.out.len
        rw [show y % 16 = y by omega] at this
        rw [show hexD u = hexA (65 - p) u by unfold hexD; rw [hnum]; congr 1; omega]; exact this)
      have hbs := Lib.hid (show Below w.heap.size wr (wr.setCell ⟨w.heap.size, p, none⟩ (.int .u8 ((hx y).toNat : Int))) from (Below.refl _ _).setCell (p := ⟨w.heap.size, p, none⟩) (Nat.le_refl _) _)
      have hHl : (hexD u).length = 65 - p := by unfold hexD; rw [hexA_len, hnum]; omega
      have hfar : Hid (TX wr base v t) := Lib.hid (H.out.step hB.out)
      clear hnx hlast hyd hcs hA hnum
      generalize (hx y) = dd at *
      generalize hws : wr.setCell ⟨w.heap.size, p, none⟩ (.int .u8 (dd.toNat : Int)) = ws at *
      have hT : Hid (ws.ownsRow base 5 1 v t.length (bys t)) := Lib.hid (by
        refine own_keptFK (F := fun k => k = w.heap.size) hfar.out ⟨hbs.out.os, hbs.out.tape, hbs.out.output, by rw [← hws]; simp, fun k _ hn => by rw [← hws]; exact Below.heap_setCell _ _ _ _ hn⟩ (fun k e hk => ?_)
        have := (H.out.lt k e).2
        omega)
      have hnews : Hid (∀ (j : Nat) (x : Value), (bys (hexD u))[j]? = some x → ws.cell? ((⟨w.heap.size, p, none⟩ : Addr).add j) = some x) := Lib.hid (fun j x hj => by
        have hjl : j < 65 - p := by have := (List.getElem?_eq_some_iff.1 hj).1; rw [bys_len, hHl] at this; exact this
        rw [show (⟨w.heap.size, p, none⟩ : Addr).add j = ⟨w.heap.size, p + j, none⟩ by simp [Addr.add], hst.out.cell (show p + j < 65 by omega)]
        rw [← hj, ← hcs2.out]
        have hl := hst.out.len
        generalize cs.set p dd = es at *
        simp [bys, List.getD, show p + j < es.length by omega, List.getElem?_drop])
      have hws1 := Lib.hid (hB.out.trans hbs.out)
      have hwsz : base ≤ ws.heap.size := Nat.le_trans hb hws1.out.size
      have hp3 : ((65 - p : Nat) : Int) = 65 - (p : Int) := by omega
      clear hst hcs2 hfar hbs hB
      go_wp2_with (at_builtin; refine wpList_append_own _ rfl _ _ 31 rfl base 5 i0 (.int .u8 0) 1 1 Tryd.underlying31 hin hz0 hz1 hz2 rfl (by decide) v t.length (bys t) rfl hT.out ⟨w.heap.size, p, none⟩ (65 - p) (65 - p) (bys (hexD u)) rfl (by rw [bys_len, hHl]; omega) hnews.out (bys_one _) (by unfold maxLen; omega) (by omega) hwsz ?_; intro v' w9 hown9 hgrow9 hnil9; have hown9 := Lib.hid hown9; have hgrow9 := Lib.hid hgrow9; clear hnil9)
      go_ret2
      refine ⟨v', rfl, ?_, (hws1.out.mono hb).grown hgrow9.out hwsz (fun k hk => (H.out.lt k hk).1)⟩
      show World.ownsRow _ _ _ _ _ _ _
      rw [bys_app, List.length_append, hHl]; exact hown9.out

set_option maxHeartbeats 2000000 in
theorem append16_any {w : World} {base : Nat} {v : Value} {t : List UInt8} (h : TX w base v t) (hb : base ≤ w.heap.size) (ht : t.length ≤ 100000000) (hz : TZ w) (u : Nat) (hu : u < 18446744073709551616) :
    Calls Tryd.prog 44 #[v, .int .u64 u, .int .i64 16] w fun e w' => ∃ v', e = .returned v' ∧ TX w' base v' (t ++ hexD u) ∧ Below base w w' := by
  have hf := Lib.hid (bits16_any h hb ht hz u hu)
  have hA : Hid (Calls Tryd.prog 86 #[v, .int .u64 u, .int .i64 16] w fun e w' => ∃ v', e = .returned v' ∧ TX w' base v' (t ++ hexD u) ∧ Below base w w') := by
    show Calls _ _ _ _ _
    clear h hz
    go_enter Tryd.func86, Tryd.ntmps86
    go_wp2_with (go_at_call 134; (with_reducible refine hf.out.mono ?_); rintro e w2 ⟨v', rfl, hT, hB⟩; have hT := Lib.hid hT; have hB := Lib.hid hB)
    go_ret
    exact ⟨v', rfl, hT.out, hB.out⟩
  clear hf h hz
  go_enter Tryd.func44, Tryd.ntmps44
  go_wp2_with (go_at_call 86; (with_reducible refine hA.out.mono ?_); rintro e w2 ⟨v', rfl, hT, hB⟩; have hT := Lib.hid hT; have hB := Lib.hid hB)
  go_ret
  exact ⟨v', rfl, hT.out, hB.out⟩
end Go.Proofs.YtnhpjacodhdpeaaDoor
end

section
namespace Go.Proofs.YtnhpjacodhdpeaaDoor
open Go.ChangeShapes Go.WideShapes Go.ChangeAt Go.RowKit
set_option maxRecDepth 100000

abbrev laid3 : List (String × DataW Unit) := [("math/bits.deBruijn32tab", Rows.laid_math_bits_deBruijn32tab), ("math/bits.deBruijn64tab", Rows.laid_math_bits_deBruijn64tab), ("internal/strconv.uint64pow10", Rows.laid_internal_strconv_uint64pow10)]
def tab64 : List Int := [0, 1, 56, 2, 57, 49, 28, 3, 61, 58, 42, 50, 38, 29, 17, 4, 62, 47, 59, 36, 45, 43, 51, 22, 53, 39, 33, 30, 24, 18, 12, 5, 63, 55, 48, 27, 60, 41, 37, 16, 46, 35, 44, 21, 52, 32, 23, 11, 54, 26, 40, 15, 34, 20, 31, 10, 25, 14, 19, 9, 13, 8, 7, 6]
theorem gT64 : Tryd.prog.globalNamed "math/bits.deBruijn64tab" = some 3 := by kernel_rfl
theorem tT64 : (Tryd.prog.globals[3]?).map (·.type) = some 253 := by kernel_rfl
theorem tz_of_laid {W : World} (h : laidMetH Tryd.prog laid3 W) : TZ W := by
  have h2 : laidMet Tryd.prog laid3 W := by
    have e := MakeChecks.laidMetH_plain Tryd.prog laid3 W (by kernel_rfl)
    rw [e] at h; exact h
  have h3 := h2.filter (fun x => x.1 == "math/bits.deBruijn64tab")
  have e : (laid3.filter fun x => x.1 == "math/bits.deBruijn64tab") = [("math/bits.deBruijn64tab", Lib.tabData .u8 tab64)] := by kernel_rfl
  rw [e] at h3
  have h4 := Lib.tabIs_of_head gT64 tT64 Tryd.underlying253 Tryd.underlying5 (by kernel_rfl) (by kernel_rfl) h3
  exact h4.cell gT64 15 (by decide)
/-- The door's own heap meets the condition. -/
theorem door_met (os : Os) (args : Array Value) : laidMetH Tryd.prog laid3 ((World.doorLaid Tryd.prog 4000 os).forCall (fun _ _ => 0) ⟨#[], args, []⟩).memory :=
  laidMetH_of_parts3 (fuel := 8) (laidMet_of_run' 8 (by kernel_rfl) (by kernel_rfl)) (by kernel_rfl) (by kernel_rfl)
end Go.Proofs.YtnhpjacodhdpeaaDoor
end

section
namespace Go.Proofs.YtnhpjacodhdpeaaDoor
open Go.RowKit Go.Shelf
set_option maxRecDepth 100000

def layDigits_ren : Go.Shelf.Ren := ⟨fun | 284 => 132 | 129 => 161 | 317 => 160 | 318 => 162 | n => n, fun | 53 => 46 | 3 => 3 | 212 => 238 | 0 => 0 | 4 => 4 | 46 => 124 | 5 => 5 | 9 => 9 | n => n, fun | 17 => 1 | n => n⟩
theorem layDigits : Go.Proofs.LaysM.n284 Tryd.prog layDigits_ren := {
  mixed := by kernel_rfl,
  f129 := Tryd.func161.trans (congrArg some (by kernel_rfl)),
  f284 := Tryd.func132.trans (congrArg some (by kernel_rfl)),
  f317 := Tryd.func160.trans (congrArg some (by kernel_rfl)),
  f318 := Tryd.func162.trans (congrArg some (by kernel_rfl)),
  t0 := Tryd.underlying0,
  a0 := Tryd.isAgg0,
  z0 := Tryd.sizeOf0,
  v0 := Tryd.zeroValue0,
  t3 := Tryd.underlying3,
  a3 := Tryd.isAgg3,
  z3 := Tryd.sizeOf3,
  v3 := Tryd.zeroValue3,
  t4 := Tryd.underlying4,
  a4 := Tryd.isAgg4,
  z4 := Tryd.sizeOf4,
  v4 := Tryd.zeroValue4,
  t5 := Tryd.underlying5,
  a5 := Tryd.isAgg5,
  z5 := Tryd.sizeOf5,
  v5 := Tryd.zeroValue5,
  t9 := Tryd.underlying9,
  a9 := Tryd.isAgg9,
  z9 := Tryd.sizeOf9,
  v9 := Tryd.zeroValue9,
  t46 := Tryd.underlying124,
  a46 := Tryd.isAgg124,
  z46 := Tryd.sizeOf124,
  v46 := Tryd.zeroValue124,
  t53 := Tryd.underlying46,
  a53 := Tryd.isAgg46,
  z53 := Tryd.sizeOf46,
  v53 := Tryd.zeroValue46,
  t212 := Tryd.underlying238,
  a212 := Tryd.isAgg238,
  z212 := Tryd.sizeOf238,
  v212 := Tryd.zeroValue238,
  g17 := by kernel_rfl,
  i0 := by kernel_rfl,
  i3 := by kernel_rfl,
  i4 := by kernel_rfl,
  i5 := by kernel_rfl,
  i9 := by kernel_rfl,
  i46 := by kernel_rfl,
  i53 := by kernel_rfl,
  i212 := by kernel_rfl,
  m17 := by kernel_rfl }

def layBase10_ren : Go.Shelf.Ren := ⟨fun | 285 => 133 | n => n, fun | 37 => 31 | 53 => 46 | 3 => 3 | 4 => 4 | 51 => 93 | 9 => 9 | 5 => 5 | 0 => 0 | n => n, fun | n => n⟩
theorem layBase10 : Go.Proofs.Lays.n285 Tryd.prog layBase10_ren := {
  mixed := by kernel_rfl,
  f285 := Tryd.func133.trans (congrArg some (by kernel_rfl)),
  t0 := Tryd.underlying0,
  a0 := Tryd.isAgg0,
  z0 := Tryd.sizeOf0,
  v0 := Tryd.zeroValue0,
  t3 := Tryd.underlying3,
  a3 := Tryd.isAgg3,
  z3 := Tryd.sizeOf3,
  v3 := Tryd.zeroValue3,
  t4 := Tryd.underlying4,
  a4 := Tryd.isAgg4,
  z4 := Tryd.sizeOf4,
  v4 := Tryd.zeroValue4,
  t5 := Tryd.underlying5,
  a5 := Tryd.isAgg5,
  z5 := Tryd.sizeOf5,
  v5 := Tryd.zeroValue5,
  t9 := Tryd.underlying9,
  a9 := Tryd.isAgg9,
  z9 := Tryd.sizeOf9,
  v9 := Tryd.zeroValue9,
  t37 := Tryd.underlying31,
  a37 := Tryd.isAgg31,
  z37 := Tryd.sizeOf31,
  v37 := Tryd.zeroValue31,
  t51 := Tryd.underlying93,
  a51 := Tryd.isAgg93,
  z51 := Tryd.sizeOf93,
  v51 := Tryd.zeroValue93,
  t53 := Tryd.underlying46,
  a53 := Tryd.isAgg46,
  z53 := Tryd.sizeOf46,
  v53 := Tryd.zeroValue46 }

def laySmall_ren : Go.Shelf.Ren := ⟨fun | 283 => 131 | n => n, fun | 3 => 3 | 9 => 9 | 4 => 4 | n => n, fun | n => n⟩
theorem laySmall : Go.Proofs.Lays.n283 Tryd.prog laySmall_ren := {
  mixed := by kernel_rfl,
  f283 := Tryd.func131.trans (congrArg some (by kernel_rfl)),
  t3 := Tryd.underlying3,
  a3 := Tryd.isAgg3,
  z3 := Tryd.sizeOf3,
  v3 := Tryd.zeroValue3,
  t4 := Tryd.underlying4,
  a4 := Tryd.isAgg4,
  z4 := Tryd.sizeOf4,
  v4 := Tryd.zeroValue4,
  t9 := Tryd.underlying9,
  a9 := Tryd.isAgg9,
  z9 := Tryd.sizeOf9,
  v9 := Tryd.zeroValue9 }

def layJoin_ren : Go.Shelf.Ren := ⟨fun | 156 => 147 | 165 => 67 | 166 => 68 | 169 => 70 | 240 => 106 | 241 => 107 | 276 => 142 | 277 => 143 | n => n, fun | 31 => 221 | 9 => 9 | 3 => 3 | 4 => 4 | 0 => 0 | 20 => 20 | 72 => 130 | 76 => 134 | 70 => 128 | 37 => 31 | 75 => 133 | 127 => 178 | 164 => 212 | 5 => 5 | 80 => 137 | n => n, fun | n => n⟩
theorem layJoin : Go.Proofs.Lays.n156 Tryd.prog layJoin_ren := {
  mixed := by kernel_rfl,
  f156 := Tryd.func147.trans (congrArg some (by kernel_rfl)),
  f165 := Tryd.func67.trans (congrArg some (by kernel_rfl)),
  f166 := Tryd.func68.trans (congrArg some (by kernel_rfl)),
  f169 := Tryd.func70.trans (congrArg some (by kernel_rfl)),
  f240 := Tryd.func106.trans (congrArg some (by kernel_rfl)),
  f241 := Tryd.func107.trans (congrArg some (by kernel_rfl)),
  f276 := Tryd.func142.trans (congrArg some (by kernel_rfl)),
  f277 := Tryd.func143.trans (congrArg some (by kernel_rfl)),
  t0 := Tryd.underlying0,
  a0 := Tryd.isAgg0,
  z0 := Tryd.sizeOf0,
  v0 := Tryd.zeroValue0,
  t3 := Tryd.underlying3,
  a3 := Tryd.isAgg3,
  z3 := Tryd.sizeOf3,
  v3 := Tryd.zeroValue3,
  t4 := Tryd.underlying4,
  a4 := Tryd.isAgg4,
  z4 := Tryd.sizeOf4,
  v4 := Tryd.zeroValue4,
  t9 := Tryd.underlying9,
  a9 := Tryd.isAgg9,
  z9 := Tryd.sizeOf9,
  v9 := Tryd.zeroValue9,
  t20 := Tryd.underlying20,
  a20 := Tryd.isAgg20,
  z20 := Tryd.sizeOf20,
  v20 := Tryd.zeroValue20,
  t31 := Tryd.underlying221,
  a31 := Tryd.isAgg221,
  z31 := Tryd.sizeOf221,
  v31 := Tryd.zeroValue221,
  t37 := Tryd.underlying31,
  a37 := Tryd.isAgg31,
  z37 := Tryd.sizeOf31,
  v37 := Tryd.zeroValue31,
  t70 := Tryd.underlying128,
  a70 := Tryd.isAgg128,
  z70 := Tryd.sizeOf128,
  v70 := Tryd.zeroValue128,
  t72 := Tryd.underlying130,
  a72 := Tryd.isAgg130,
  z72 := Tryd.sizeOf130,
  v72 := Tryd.zeroValue130,
  t75 := Tryd.underlying133,
  a75 := Tryd.isAgg133,
  z75 := Tryd.sizeOf133,
  v75 := Tryd.zeroValue133,
  t76 := Tryd.underlying134,
  a76 := Tryd.isAgg134,
  z76 := Tryd.sizeOf134,
  v76 := Tryd.zeroValue134,
  t127 := Tryd.underlying178,
  a127 := Tryd.isAgg178,
  z127 := Tryd.sizeOf178,
  v127 := Tryd.zeroValue178,
  t164 := Tryd.underlying212,
  a164 := Tryd.isAgg212,
  z164 := Tryd.sizeOf212,
  v164 := Tryd.zeroValue212 }

def layRepeat_ren : Go.Shelf.Ren := ⟨fun | 105 => 33 | 212 => 65 | 99 => 66 | 165 => 67 | 166 => 68 | 170 => 69 | 169 => 70 | 263 => 103 | 264 => 104 | 206 => 105 | 240 => 106 | 241 => 107 | 276 => 142 | 277 => 143 | n => n, fun | 9 => 9 | 3 => 3 | 4 => 4 | 20 => 20 | 0 => 0 | 46 => 124 | 109 => 125 | 5 => 5 | 72 => 130 | 76 => 134 | 51 => 93 | 146 => 174 | 53 => 46 | 148 => 176 | 70 => 128 | 37 => 31 | 75 => 133 | 127 => 178 | 164 => 212 | 80 => 137 | n => n, fun | n => n⟩
theorem layRepeat : Go.Proofs.Lays.n105 Tryd.prog layRepeat_ren := {
  mixed := by kernel_rfl,
  f99 := Tryd.func66.trans (congrArg some (by kernel_rfl)),
  f105 := Tryd.func33.trans (congrArg some (by kernel_rfl)),
  f165 := Tryd.func67.trans (congrArg some (by kernel_rfl)),
  f166 := Tryd.func68.trans (congrArg some (by kernel_rfl)),
  f169 := Tryd.func70.trans (congrArg some (by kernel_rfl)),
  f170 := Tryd.func69.trans (congrArg some (by kernel_rfl)),
  f206 := Tryd.func105.trans (congrArg some (by kernel_rfl)),
  f212 := Tryd.func65.trans (congrArg some (by kernel_rfl)),
  f240 := Tryd.func106.trans (congrArg some (by kernel_rfl)),
  f241 := Tryd.func107.trans (congrArg some (by kernel_rfl)),
  f263 := Tryd.func103.trans (congrArg some (by kernel_rfl)),
  f264 := Tryd.func104.trans (congrArg some (by kernel_rfl)),
  f276 := Tryd.func142.trans (congrArg some (by kernel_rfl)),
  f277 := Tryd.func143.trans (congrArg some (by kernel_rfl)),
  t0 := Tryd.underlying0,
  a0 := Tryd.isAgg0,
  z0 := Tryd.sizeOf0,
  v0 := Tryd.zeroValue0,
  t3 := Tryd.underlying3,
  a3 := Tryd.isAgg3,
  z3 := Tryd.sizeOf3,
  v3 := Tryd.zeroValue3,
  t4 := Tryd.underlying4,
  a4 := Tryd.isAgg4,
  z4 := Tryd.sizeOf4,
  v4 := Tryd.zeroValue4,
  t5 := Tryd.underlying5,
  a5 := Tryd.isAgg5,
  z5 := Tryd.sizeOf5,
  v5 := Tryd.zeroValue5,
  t9 := Tryd.underlying9,
  a9 := Tryd.isAgg9,
  z9 := Tryd.sizeOf9,
  v9 := Tryd.zeroValue9,
  t20 := Tryd.underlying20,
  a20 := Tryd.isAgg20,
  z20 := Tryd.sizeOf20,
  v20 := Tryd.zeroValue20,
  t37 := Tryd.underlying31,
  a37 := Tryd.isAgg31,
  z37 := Tryd.sizeOf31,
  v37 := Tryd.zeroValue31,
  t46 := Tryd.underlying124,
  a46 := Tryd.isAgg124,
  z46 := Tryd.sizeOf124,
  v46 := Tryd.zeroValue124,
  t51 := Tryd.underlying93,
  a51 := Tryd.isAgg93,
  z51 := Tryd.sizeOf93,
  v51 := Tryd.zeroValue93,
  t53 := Tryd.underlying46,
  a53 := Tryd.isAgg46,
  z53 := Tryd.sizeOf46,
  v53 := Tryd.zeroValue46,
  t70 := Tryd.underlying128,
  a70 := Tryd.isAgg128,
  z70 := Tryd.sizeOf128,
  v70 := Tryd.zeroValue128,
  t72 := Tryd.underlying130,
  a72 := Tryd.isAgg130,
  z72 := Tryd.sizeOf130,
  v72 := Tryd.zeroValue130,
  t75 := Tryd.underlying133,
  a75 := Tryd.isAgg133,
  z75 := Tryd.sizeOf133,
  v75 := Tryd.zeroValue133,
  t76 := Tryd.underlying134,
  a76 := Tryd.isAgg134,
  z76 := Tryd.sizeOf134,
  v76 := Tryd.zeroValue134,
  t109 := Tryd.underlying125,
  a109 := Tryd.isAgg125,
  z109 := Tryd.sizeOf125,
  v109 := Tryd.zeroValue125,
  t127 := Tryd.underlying178,
  a127 := Tryd.isAgg178,
  z127 := Tryd.sizeOf178,
  v127 := Tryd.zeroValue178,
  t146 := Tryd.underlying174,
  a146 := Tryd.isAgg174,
  z146 := Tryd.sizeOf174,
  v146 := Tryd.zeroValue174,
  t148 := Tryd.underlying176,
  a148 := Tryd.isAgg176,
  z148 := Tryd.sizeOf176,
  v148 := Tryd.zeroValue176,
  t164 := Tryd.underlying212,
  a164 := Tryd.isAgg212,
  z164 := Tryd.sizeOf212,
  v164 := Tryd.zeroValue212 }

end Go.Proofs.YtnhpjacodhdpeaaDoor
end
