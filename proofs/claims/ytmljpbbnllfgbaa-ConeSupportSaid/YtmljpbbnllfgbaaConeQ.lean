/-
  ConeWords: what is used along the way.
-/
import Derived.Test.YtmljpbbnllfgbaaConeP
import Derived.Test.YtmljpbbnllfgbaaConeY
namespace Go.Proofs.Ytmljpbbnllfgbaa
open Go.RowKit Go.Maps Num
set_option maxRecDepth 100000

theorem Steps.step {w w2 : World} {a : Option Addr} {n : Nat} {S : Nat → Int × Int × Int} (h : Steps w a n S) (hb : Below w.heap.size w w2) : Steps w2 a n S := by
  obtain ⟨h1, h2, h3⟩ := h
  refine ⟨h1, h2, ?_⟩
  rcases h3 with h3 | ⟨b, off, rfl, hbl, hc⟩
  · exact .inl h3
  · exact .inr ⟨b, off, rfl, Nat.lt_of_lt_of_le hbl hb.size, fun i hi => ⟨stepc hb hbl (hc i hi).1, stepc hb hbl (hc i hi).2.1, stepc hb hbl (hc i hi).2.2⟩⟩
theorem val_word {G : Gr} {ins ws ws2 : List Int} (hW : Wf G) (v : Val G ins ws) (v2 : Val G ins ws2) {x : Int} (hx : There G x) : wordV x ws = wordV x ws2 := by
  have hs := Val.same hW v v2 (fun _ _ => rfl)
  have h1 := v.len
  have h2 := v2.len
  have h0 := hx.1.1
  have h3 := hx.2
  have e : nodeW (x / 2) ws = nodeW (x / 2) ws2 := by
    unfold nodeW
    by_cases hp : 0 < x / 2
    · rw [if_pos (by simp; omega), if_pos (by simp; omega)]
      exact hs _ (by omega)
    · rw [if_neg (by simp; omega), if_neg (by simp; omega)]
  unfold wordV; rw [e]
theorem words_row {n : Nat} {l ws : List Int} (h : Words ws) : Words (Bits.row n (wordsF l ws)) := fun i => by
  by_cases hi : i < n
  · rw [getD_row _ _ _ hi]; exact wordV_bd h _
  · rw [show (Bits.row n (wordsF l ws)).getD i 0 = 0 by simp [List.getD, Bits.row, hi]]; omega
theorem fill_words {l : List Int} (h : Words l) (m : Nat) : Words (Bits.row m (fillL l)) := fun i => by
  by_cases hi : i < m
  · rw [getD_row _ _ _ hi]; exact h i
  · rw [show (Bits.row m (fillL l)).getD i 0 = 0 by simp [List.getD, Bits.row, hi]]; omega
/-- The two rows of words. -/
theorem got_want {G T : Gr} {l b : List Int} {T' : Gr} {S : List Int} (h : CopyOut G T l b T' S) (hb : AllThere T b) {n il : Nat} (hl : l.length = n) (hbl : b.length = il) (hil : il = G.inputs.length) {ins ws ws2 wsG : List Int} (hV : Val T' ins ws) (hV2 : Val T' ins ws2) (hG : Val G (Bits.row il (wordsF b ws)) wsG) :
    Bits.row n (wordsF (Bits.row n (fun i => overV S (l.getD i 0))) ws2) = Bits.row n (wordsF l wsG) := by
  refine Bits.row_congr (fun i hi => ?_)
  unfold wordsF
  rw [getD_row _ _ _ hi]
  refine h.word _ _ _ _ hG hV2 (fun k hk => ?_) _ (by simp [List.getD, show i < l.length by omega])
  rw [getD_row _ _ _ (by omega)]
  unfold wordsF
  refine val_word h.wf hV hV2 (h.le.there (hb _ (by simp [List.getD, show k < b.length by omega])))

theorem AtG.words {w0 w : World} {B : Nat} {p : Pl} {G : Gr} (h : AtG w0 B w p G) {ia : Option Addr} {ic : Nat} {ins : List Int} (hr : Row .u64 w ia G.inputs.length ins) (hw : Words ins) {a : Option Addr} {n c : Nat} {l : List Int} (hs : Row .u32 w a n l) (hl : AllThere G l) (hn : n ≤ 200000) :
    Calls Try.prog 15 #[.pointer (some ⟨B, 0, none⟩), .slice ia G.inputs.length ic, .slice a n c] w fun e w' => ∃ (ws : List Int) (g : Nat), e = .returned (.tuple #[.slice (some ⟨g, 0, none⟩) n n, .int .i64 0]) ∧ Hid (Row .u64 w' (some ⟨g, 0, none⟩) n (Bits.row n (wordsF l ws))) ∧ Hid (Val G ins ws) ∧ Below w.heap.size w w' := by
  have := Words_any (ic := ic) (c := c) h.is h.wf (by have := h.len; omega) hr hw hs hl hn
  rw [h.b] at this
  exact this.mono (fun e w' ⟨ws, g, he, ho, hV, hB⟩ => ⟨ws, g, he, Lib.hid (Row.of_own ho (by simp [Bits.row]) (by omega)), Lib.hid hV, hB⟩)
theorem AtG.copy {w0 w : World} {B : Nat} {p : Pl} {G : Gr} (h : AtG w0 B w p G) :
    Calls Try.prog 12 #[.pointer (some ⟨B, 0, none⟩)] w fun e w' => ∃ B2 p2, e = .returned (.pointer (some ⟨B2, 0, none⟩)) ∧ AtG w0 B2 w' p2 G ∧ AtG w0 B w' p G ∧ Apart p p2 ∧ Below w.heap.size w w' := by
  have := Copy_any h.is h.wf (by have := h.len; omega)
  rw [h.b] at this
  exact this.mono (fun e w' ⟨p2, he, hI, hB, ho⟩ => ⟨p2.b, p2, he, ⟨hI, h.wf, rfl, fun k hk => Nat.le_trans h.below.size (ho k hk), nextw h.below hB, h.len⟩, h.step hB, fun k hk h2 => by
    have := h.is.has_lt hk
    have := ho k h2
    omega, hB⟩)
theorem AtG.inputsOf {w0 w : World} {B : Nat} {p : Pl} {G : Gr} (h : AtG w0 B w p G) :
    Calls Try.prog 11 #[.pointer (some ⟨B, 0, none⟩)] w fun e w' => ∃ (a : Option Addr) (c : Nat), e = .returned (.slice a G.inputs.length c) ∧ Below w.heap.size w w' := by
  have := Inputs_any h.is h.wf (by have := h.len; omega)
  rw [h.b] at this
  exact this
/-- The literals of numbers, brought to a graph. -/
theorem inside_lits {w : World} {a2 : Option Addr} {n c2 : Nat} {l : List Int} {w1 : World} {L : Nat} (h : MadeR w w1 39 .u32 a2 (min n 40) c2 ((l.take 40).map (brV L))) :
    Calls Try.prog 9 #[.slice a2 (min n 40) c2] w1 fun e w' => ∃ a3 c3, e = .returned (.slice a3 (min n 40) c3) ∧ MadeR w w' 40 .u32 a3 (min n 40) c3 ((l.take 40).map (brV L)) := by
  have hrow : Row .u32 w1 a2 (min n 40) ((l.take 40).map (brV L)) := Row.of_own h.own (by have := h.own.1; simpa using this) (by omega)
  refine (lits_any hrow).mono (fun e w' ⟨a3, c3, he, hm⟩ => ?_)
  have e1 : min (min n 40) 40 = min n 40 := by omega
  have e2 : (((l.take 40).map (brV L)).take 40).map id = (l.take 40).map (brV L) := by
    rw [List.map_id, List.take_of_length_le (by simp; omega)]
  rw [e1] at he hm
  rw [e2] at hm
  exact ⟨a3, c3, he, own_base hm.own h.below.size, nextw h.below hm.below⟩
end Go.Proofs.Ytmljpbbnllfgbaa
