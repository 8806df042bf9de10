/-
  The law package's own: wakes.
-/
import Derived.Test.YtnhpjacodhdpeaaDoorTrO
import Derived.Lib.SlBytesConst
namespace Go.Proofs.YtnhpjacodhdpeaaDoor
open Go.RowKit Go.Maps Bits
set_option maxRecDepth 100000

def wkL : List TB := [⟨⟨#[120]⟩, 8⟩, ⟨⟨#[99]⟩, 1⟩]
def wkR : List (List Int) := [[31, 1], [0, 0]]
def wkT : List UInt8 := [120, 58, 56, 32, 99, 58, 49, 10, 49, 102, 32, 49, 10, 48, 32, 48, 10]
theorem wk_may : mayT wkL wkR = true := by decide +kernel
theorem hexD_0 : hexD 0 = [48] := by rw [hexD, nHex_small (by decide)]; decide
theorem hexD_1 : hexD 1 = [49] := by rw [hexD, nHex_small (by decide)]; decide
theorem hexD_31 : hexD 31 = [49, 102] := by rw [hexD, nHex_big (by decide), nHex_small (by decide)]; decide
theorem wk_put : putT wkL wkR = wkT := by
  have e : ∀ x y : List UInt8, rowT [31, 1] = lineT [hexD 31, hexD 1] := fun _ _ => rfl
  show headT wkL ++ (lineT [hexD 31, hexD 1] ++ (lineT [hexD 0, hexD 0] ++ [])) = wkT
  rw [hexD_31, hexD_1, hexD_0]
  decide +kernel
def errOf {α : Type} : Except Nat α → Option Nat
  | .error e => some e
  | .ok _ => none
theorem errOf_is {α : Type} {x : Except Nat α} {n : Nat} (h : errOf x = some n) : x = .error n := by
  cases x with
  | error e => simp [errOf] at h; rw [h]
  | ok v => cases h
theorem wk_short : getP [120, 58, 56, 32, 99, 58, 49, 10, 49, 102, 32, 49, 10, 48, 32, 48] = .error 4 := errOf_is (by decide +kernel)
theorem wk_form : getP [120, 58, 56, 10, 48, 49, 10] = .error 5 := errOf_is (by decide +kernel)
theorem str_br (w : World) (s : ByteArray) (cap : Nat) (x : Nat × Nat) (hs : s.size ≤ 9223372036854775807) : BR (w.alloc (.cells (bytesRow s cap) 5 x)).drew (some ⟨w.heap.size, 0, none⟩) s.size s.data.toList :=
  ⟨Array.length_toList, hs, .inr ⟨w.heap.size, 0, rfl, by simp, fun i hi => by rw [Nat.zero_add]; exact bytes_at w s cap _ x hi⟩⟩
theorem Get_str {w : World} (s : ByteArray) (x : Nat × Nat) (hs : s.size ≤ 16777216) {n : Nat} (hn : s.size = n) {l : List UInt8} (hl : s.data.toList = l) :
    Calls Tryd.prog 29 #[.slice (some ⟨w.heap.size, 0, none⟩) n (grownCap w n 0 5)] (w.alloc (.cells (bytesRow s (grownCap w n 0 5)) 5 x)).drew fun e w' => GetOk (w.alloc (.cells (bytesRow s (grownCap w n 0 5)) 5 x)).drew w' e (getP l) ∧ Below w.heap.size w w' := by
  subst hn hl
  have h1 := grownCap_ge w s.size 0 5
  have h2 := grownCap_le_maxLen w s.size 0 5 (by unfold maxLen; omega)
  unfold maxLen at h2
  refine (Get_any (str_br w s _ x (by omega)) _ h1 (by omega) hs).mono fun e w' h => ⟨h.1, nextw ((Below.refl _ _).alloc (Nat.le_refl _) _).drew h.2⟩
set_option maxHeartbeats 4000000 in
theorem wakes_any {w : World} (hz : TZ w) : Calls Tryd.prog 24 #[] w fun e w' => e = .returned (.bool true) ∧ Below w.heap.size w w' := by
  have HZ := Lib.hid hz
  clear hz
  go_enter Tryd.func24, Tryd.ntmps24
  go_upto_region 2 with fail
  have hmk : ∀ x, x = (((((w.alloc (.cells #[.string ⟨#[120]⟩, .int .i64 8, .string ⟨#[99]⟩, .int .i64 1] 69)).alloc (.cells #[.int .u64 31, .int .u64 1] 46)).alloc (.cells #[.int .u64 0, .int .u64 0] 46)).alloc (.cells #[.slice (some ⟨w.heap.size + 1, 0, none⟩) 2 2, .slice (some ⟨w.heap.size + 1 + 1, 0, none⟩) 2 2] 37)).alloc (.cells #[.slice (some ⟨w.heap.size, 0, none⟩) 2 2, .slice (some ⟨w.heap.size + 1 + 1 + 1, 0, none⟩) 2 2] 25)) →
      Below w.heap.size w x ∧ x.heap.size = w.heap.size + 5 ∧ BsR x (some ⟨w.heap.size, 0, none⟩) 2 wkL ∧ RRk .u64 x (some ⟨w.heap.size + 1 + 1 + 1, 0, none⟩) 2 wkR ∧ x.cell? ⟨w.heap.size + 1 + 1 + 1 + 1, 0, none⟩ = some (.slice (some ⟨w.heap.size, 0, none⟩) 2 2) ∧ x.cell? ⟨w.heap.size + 1 + 1 + 1 + 1, 1, none⟩ = some (.slice (some ⟨w.heap.size + 1 + 1 + 1, 0, none⟩) 2 2) := by
    rintro x rfl
    refine ⟨((((((Below.refl _ _).alloc (Nat.le_refl _) _).alloc (by simp) _).alloc (by simp; omega) _).alloc (by simp; omega) _).alloc (by simp; omega) _), by simp, ⟨rfl, by omega, .inr ⟨w.heap.size, 0, rfl, by simp; omega, fun i hi => ?_⟩⟩, ⟨rfl, by omega, .inr ⟨w.heap.size + 1 + 1 + 1, 0, rfl, by simp, fun i hi => ?_⟩⟩, by simp [go_sem], by simp [go_sem]⟩
    · rcases (show i = 0 ∨ i = 1 by omega) with rfl | rfl <;> simp [go_sem, wkL, List.getD]
    · rcases (show i = 0 ∨ i = 1 by omega) with rfl | rfl
      · refine ⟨some ⟨w.heap.size + 1, 0, none⟩, 2, by simp [go_sem, wkR, List.getD], by decide, by decide, rfl, by decide, .inr ⟨w.heap.size + 1, 0, rfl, by simp, fun k hk => ?_⟩⟩
        rcases (show k = 0 ∨ k = 1 by (have : k < 2 := hk; omega)) with rfl | rfl <;> simp [go_sem, wkR, List.getD]
      · refine ⟨some ⟨w.heap.size + 1 + 1, 0, none⟩, 2, by simp [go_sem, wkR, List.getD], by decide, by decide, rfl, by decide, .inr ⟨w.heap.size + 1 + 1, 0, rfl, by simp, fun k hk => ?_⟩⟩
        rcases (show k = 0 ∨ k = 1 by (have : k < 2 := hk; omega)) with rfl | rfl <;> simp [go_sem, wkR, List.getD]
  obtain ⟨hb1, hz1, hL1, hR1, c0, c1⟩ := hmk _ rfl
  clear hmk
  generalize (((((w.alloc (.cells #[.string ⟨#[120]⟩, .int .i64 8, .string ⟨#[99]⟩, .int .i64 1] 69)).alloc (.cells #[.int .u64 31, .int .u64 1] 46)).alloc (.cells #[.int .u64 0, .int .u64 0] 46)).alloc (.cells #[.slice (some ⟨w.heap.size + 1, 0, none⟩) 2 2, .slice (some ⟨w.heap.size + 1 + 1, 0, none⟩) 2 2] 37)).alloc (.cells #[.slice (some ⟨w.heap.size, 0, none⟩) 2 2, .slice (some ⟨w.heap.size + 1 + 1 + 1, 0, none⟩) 2 2] 25)) = w1 at *
  have hput := Lib.hid (Put_any hL1 hR1 2 2 (by omega) (HZ.out.step hb1) (by
    intro i k
    match i with
    | 0 => match k with
      | 0 => decide
      | 1 => decide
      | k + 2 => simp [wkR, List.getD]
    | 1 => match k with
      | 0 => decide
      | 1 => decide
      | k + 2 => simp [wkR, List.getD]
    | i + 2 => simp [wkR, List.getD]))
  have hcv := fun w s => run_bytes_of_string (P := Tryd.prog) w 9 31 5 s Tryd.underlying9 Tryd.underlying31 Tryd.underlying5
  go_upto_region 4 with (go_at_call 12; (with_reducible refine hput.out.mono ?_); rintro e w5 ⟨he, hb5⟩; have he2 := he; unfold PutOk at he2; rw [wk_may, if_pos rfl, wk_put] at he2; obtain ⟨vp, rfl, hT5⟩ := he2; obtain ⟨pa, pc, rfl⟩ := own_slice hT5; have hB5 := Lib.hid (nextw hb1 hb5); have hT5 := Lib.hid hT5; clear he hb5)
  clear hput hL1 hR1 c0 c1 hb1
  have hget := Lib.hid (fun x => Get_str (w := w5) ((⟨#[120, 58, 56, 32, 99, 58, 49, 10, 49, 102, 32, 49, 10, 48, 32, 48, 10]⟩ : ByteArray).extract 0 16) x (by decide) (n := 16) (by decide) (l := [120, 58, 56, 32, 99, 58, 49, 10, 49, 102, 32, 49, 10, 48, 32, 48]) (by decide +kernel))
  rw [wk_short] at hget
  go_upto_region 5 with (go_at_call 29; (with_reducible refine (hget.out _).mono ?_); rintro e w6 ⟨he, hb6⟩; obtain rfl : e = .returned (.tuple #[.agg #[.slice none 0 0, .slice none 0 0], .int .i64 4]) := he; have hT6 := Lib.hid (own_below hT5.out hb6); have hB6 := Lib.hid (nextw hB5.out hb6); clear hb6)
  have hT7 := Lib.hid (own_below hT6.out (show Below w6.heap.size w6 (w6.alloc (.cells #[.slice none 0 0, .slice none 0 0] 25)) from (Below.refl _ _).alloc (Nat.le_refl _) _))
  have hB7 := Lib.hid (nextw hB6.out (show Below w6.heap.size w6 (w6.alloc (.cells #[.slice none 0 0, .slice none 0 0] 25)) from (Below.refl _ _).alloc (Nat.le_refl _) _))
  generalize w6.alloc (.cells #[.slice none 0 0, .slice none 0 0] 25) = w7 at *
  have hall := Lib.hid (show Below w7.heap.size w7 (w7.alloc (.cells #[.int .u8 120, .int .u8 58, .int .u8 56, .int .u8 10, .int .u8 48, .int .u8 49, .int .u8 10] 5 (7, 8))) from (Below.refl _ _).alloc (Nat.le_refl _) _)
  have hget2 := Lib.hid (Get_any (w := w7.alloc (.cells #[.int .u8 120, .int .u8 58, .int .u8 56, .int .u8 10, .int .u8 48, .int .u8 49, .int .u8 10] 5 (7, 8))) (a := some ⟨w7.heap.size, 0, none⟩) (n := 7) (l := [120, 58, 56, 10, 48, 49, 10]) ⟨rfl, by omega, .inr ⟨w7.heap.size, 0, rfl, by simp, fun i hi => by
    rcases (show i = 0 ∨ i = 1 ∨ i = 2 ∨ i = 3 ∨ i = 4 ∨ i = 5 ∨ i = 6 by omega) with rfl | rfl | rfl | rfl | rfl | rfl | rfl <;> (rw [Nat.zero_add, World.cell?_alloc_mark]; rfl)⟩⟩ 7 (by omega) (by omega) (by omega))
  rw [wk_form] at hget2
  clear hget hT6 hT5 hB5 hB6
  obtain ⟨g, cap, hv⟩ := own_form hT7.out (by decide)
  simp only [Value.slice.injEq] at hv
  obtain ⟨rfl, -, rfl⟩ := hv
  have hss : ((⟨wkT.toArray⟩ : ByteArray).toList == (⟨#[120, 58, 56, 32, 99, 58, 49, 10, 49, 102, 32, 49, 10, 48, 32, 48, 10]⟩ : ByteArray).toList) = true := by rw [ByteArray.toList_eq, ByteArray.toList_eq]; decide +kernel
  have hcv2 : (convert 31 31 (.slice (some ⟨w7.heap.size, 0, none⟩) 7 7)).run Tryd.prog (w7.alloc (.cells #[.int .u8 120, .int .u8 58, .int .u8 56, .int .u8 10, .int .u8 48, .int .u8 49, .int .u8 10] 5)) = .ok (.slice (some ⟨w7.heap.size, 0, none⟩) 7 7) (w7.alloc (.cells #[.int .u8 120, .int .u8 58, .int .u8 56, .int .u8 10, .int .u8 48, .int .u8 49, .int .u8 10] 5 (7, 8))) := Lib.run_convert_bytes_const w7 31 5 #[.int .u8 120, .int .u8 58, .int .u8 56, .int .u8 10, .int .u8 48, .int .u8 49, .int .u8 10] 7 7 Tryd.underlying31 Tryd.underlying5
  go_upto_region 6 with (go_at_call 29; (with_reducible refine hget2.out.mono ?_); rintro e w8 ⟨he, hb8⟩; obtain rfl : e = .returned (.tuple #[.agg #[.slice none 0 0, .slice none 0 0], .int .i64 5]) := he; have hT8 := Lib.hid (own_below (own_below hT7.out hall.out) hb8); have hB8 := Lib.hid (nextw (nextw hB7.out hall.out) hb8); clear hb8)
  have hT9 := Lib.hid (own_below hT8.out (show Below w8.heap.size w8 (w8.alloc (.cells #[.slice none 0 0, .slice none 0 0] 25)) from (Below.refl _ _).alloc (Nat.le_refl _) _))
  have hB9 := Lib.hid (nextw hB8.out (show Below w8.heap.size w8 (w8.alloc (.cells #[.slice none 0 0, .slice none 0 0] 25)) from (Below.refl _ _).alloc (Nat.le_refl _) _))
  generalize w8.alloc (.cells #[.slice none 0 0, .slice none 0 0] 25) = w9 at *
  have hcs := bytes_str (show TX w9 w1.heap.size (.slice (some ⟨g, 0, none⟩) wkT.length pc) wkT from hT9.out)
  clear hT7 hT8 hB7 hB8 hget2 hall
  go_wp2
  go_ret
  exact ⟨rfl, hB9.out⟩
end Go.Proofs.YtnhpjacodhdpeaaDoor
