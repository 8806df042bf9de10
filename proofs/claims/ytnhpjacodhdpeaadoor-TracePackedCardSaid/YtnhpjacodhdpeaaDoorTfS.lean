/-
  Bytes: a text that a call has made, as bytes that lie there; bytes.Clone, Count, Equal.
-/
import Derived.Test.YtnhpjacodhdpeaaDoorTrO
import Derived.Test.YtnhpjacodhdpeaaDoorTrU
import Derived.Test.YtnhpjacodhdpeaaDoorTfPQ
import Derived.Laws.BytesArg
import Derived.Shelf.Bytes.SlCountOne
namespace Go.Proofs.YtnhpjacodhdpeaaDoor
open Go.RowKit Go.Maps Bits
set_option maxRecDepth 100000

theorem bys_at (t : List UInt8) (i : Nat) (h : i < t.length) : (bys t)[i]? = some (.int .u8 ((t.getD i 0).toNat : Int)) := by
  simp [bys, List.getD, h]
theorem BR.of_tx {w : World} {base : Nat} {v : Value} {t : List UInt8} (h : TX w base v t) (h0 : 0 < t.length) :
    ∃ g cap, v = .slice (some ⟨g, 0, none⟩) t.length cap ∧ t.length ≤ cap ∧ cap ≤ 9223372036854775807 ∧ BR w (some ⟨g, 0, none⟩) t.length t ∧ base ≤ g := by
  obtain ⟨g, cap, rfl⟩ := own_form h h0
  unfold TX at h
  have hc := own_cap h
  unfold maxLen at hc
  refine ⟨g, cap, rfl, hc.1, by omega, ⟨rfl, by omega, .inr ⟨g, 0, rfl, own_lt h, fun i hi => ?_⟩⟩, own_ge h g rfl⟩
  rw [Nat.zero_add, h.cellAt (j := i) (by omega), bys_at t i hi]
theorem BR.take {w : World} {a : Option Addr} {n : Nat} {l : List UInt8} (h : BR w a n l) (m : Nat) (hm : m ≤ n) : BR w a m (l.take m) := by
  obtain ⟨h1, h2, h3⟩ := h
  refine ⟨by rw [List.length_take]; omega, by omega, ?_⟩
  rcases h3 with h3 | ⟨b, off, rfl, hb, hc⟩
  · exact .inl (by omega)
  · refine .inr ⟨b, off, rfl, hb, fun i hi => ?_⟩
    have e : (l.take m).getD i 0 = l.getD i 0 := by simp [List.getD, hi]
    rw [e]; exact hc i (by omega)
def nums (l : List UInt8) : List Int := l.map (fun b => (b.toNat : Int))
theorem nums_at (l : List UInt8) (i : Nat) (h : i < l.length) : (nums l).getD i 0 = ((l.getD i 0).toNat : Int) := by
  simp [nums, List.getD, h]
theorem nums_len (l : List UInt8) : (nums l).length = l.length := by simp [nums]
theorem nums_bytes (l : List UInt8) : Lib.bytesOf (nums l) = l := by
  unfold nums Lib.bytesOf
  rw [List.map_map]
  conv => rhs; rw [← List.map_id l]
  apply List.map_congr_left
  intro b _
  simp

theorem u8t_count : Hid (∀ w : World, ∀ {a : Option Addr} {n c : Nat} {l : List UInt8}, BR w a n l → (Extern.BytealgCount.count #[.slice a n c, .int .u8 10]).run Tryd.prog w = .ok (.int .i64 (l.count 10 : Nat)) w) := Lib.hid (by
  intro w a n c l h
  obtain ⟨h1, -, h3⟩ := h
  have key : ∀ x : Addr, (∀ i, i < n → w.cell? (x.add i) = some (.int .u8 ((nums l).getD i 0))) → (Extern.BytealgCount.count #[.slice (some x) n c, .int .u8 10]).run Tryd.prog w = .ok (.int .i64 (l.count 10 : Nat)) w := by
    intro x hx
    have := Lib.run_countAt (P := Tryd.prog) w x n c (nums l) (by rw [nums_len]; exact h1) hx 10
    rw [nums_bytes] at this
    exact this
  rcases h3 with h0 | ⟨b, off, rfl, -, hc⟩
  · subst h0
    obtain rfl : l = [] := List.eq_nil_of_length_eq_zero h1
    cases a with
    | none => exact Lib.run_countNil w 0 c 10
    | some x => exact key x (fun i hi => by omega)
  · refine key _ fun i hi => ?_
    rw [show (⟨b, off, none⟩ : Addr).add i = ⟨b, off + i, none⟩ by simp [Addr.add], hc i hi, nums_at l i (by omega)])
theorem count_any {w : World} {a : Option Addr} {n c b2 d : Nat} {l : List UInt8} (h : BR w a n l) (hc : w.cell? ⟨b2, 0, none⟩ = some (.int .u8 10)) :
    Calls Tryd.prog 31 #[.slice a n c, .slice (some ⟨b2, 0, none⟩) 1 d] w fun e w' => e = .returned (.int .i64 (l.count 10 : Nat)) ∧ w' = w := by
  have hcnt := Lib.hid (u8t_count.out w (c := c) h)
  clear h
  go_enter Tryd.func31, Tryd.ntmps31
  go_wp2
  rw [run_callFunc_extern Tryd.func61 (by kernel_rfl) (by kernel_rfl) (by kernel_rfl) (e := Extern.BytealgCount.count) (by kernel_rfl), hcnt.out]
  simp only [Result.andThen]
  rw [Oper.upon_value]
  go_wp2
  go_ret
  exact ⟨rfl, rfl⟩
theorem bytes_str2 {w : World} {a : Option Addr} {n c : Nat} {l : List UInt8} (h : BR w a n l) (h0 : 0 < n) : (convert 31 9 (.slice a n c)).run Tryd.prog w = .ok (.string (strOfNums (nums l))) w := by
  obtain ⟨h1, -, h3⟩ := h
  rcases h3 with h3 | ⟨b, off, rfl, -, hc⟩
  · omega
  · exact run_convert_bytes_arg w _ _ Tryd.underlying31 Tryd.underlying5 b off n c (nums l) (by rw [nums_len]; exact h1) (fun i hi => by rw [hc i hi, nums_at l i (by omega)]) _ Tryd.underlying9
theorem equal_any {w : World} {a b : Option Addr} {n c d : Nat} {l : List UInt8} (h : BR w a n l) (h2 : BR w b n l) (h0 : 0 < n) :
    Calls Tryd.prog 18 #[.slice a n c, .slice b n d] w fun e w' => e = .returned (.bool true) ∧ w' = w := by
  have e1 := bytes_str2 h (c := c) h0
  have e2 := bytes_str2 h2 (c := d) h0
  clear h h2
  generalize strOfNums (nums l) = s at *
  go_enter Tryd.func18, Tryd.ntmps18
  go_wp2
  go_ret
  exact ⟨by simp, rfl⟩

set_option maxHeartbeats 1000000 in
theorem clone_bytes {w : World} {a : Option Addr} {n c : Nat} {t : List UInt8} (h : BR w a n t) (h0 : 0 < n) (hn : n ≤ 100000000) :
    Calls Tryd.prog 30 #[.slice a n c] w fun e w' => ∃ v, e = .returned v ∧ TX w' w.heap.size v t ∧ Below w.heap.size w w' := by
  obtain ⟨i0, hi, hz0, hz1, hz2⟩ := info_parts info_u8t
  obtain ⟨h1, -, h3⟩ := h
  obtain ⟨b, off, rfl, hbl, hc⟩ : ∃ b off, a = some ⟨b, off, none⟩ ∧ b < w.heap.size ∧ ∀ i, i < n → w.cell? ⟨b, off + i, none⟩ = some (.int .u8 ((t.getD i 0).toNat : Int)) := by
    rcases h3 with h3 | h3
    · omega
    · exact h3
  have hemp : Hid ((w.alloc (.cells #[] 5)).ownsRow w.heap.size 5 1 (.slice (some ⟨w.heap.size, 0, none⟩) 0 0) 0 []) := Lib.hid ⟨rfl, .inr ⟨w.heap.size, 0, #[], rfl, Nat.le_refl _, heap_alloc_new _ _, Nat.le_refl _, by decide, rfl, rfl⟩⟩
  have hb0 : Hid (Below w.heap.size w (w.alloc (.cells #[] 5))) := Lib.hid ((Below.refl _ _).alloc (Nat.le_refl _) _)
  have HN : Hid (∀ j u, (bys t)[j]? = some u → (w.alloc (.cells #[] 5)).cell? ((⟨b, off, none⟩ : Addr).add j) = some u) := Lib.hid (fun j u hv => by
    have hj : j < n := by have := (List.getElem?_eq_some_iff.1 hv).1; rw [bys_len] at this; omega
    rw [bys_at t j (by omega)] at hv
    rw [← hv, show (⟨b, off, none⟩ : Addr).add j = ⟨b, off + j, none⟩ by simp [Addr.add]]
    exact stepc hb0.out hbl (hc j hj))
  have H1 := Lib.hid (bys_one t)
  have HL : Hid ((bys t).length = n * 1) := Lib.hid (by show _ = _; rw [bys_len]; omega)
  have HR : Hid (∀ W v, W.ownsRow w.heap.size 5 1 v n (bys t) → TX W w.heap.size v t) := Lib.hid (fun W v h => by unfold TX; rw [h1]; exact h)
  clear h3 hc
  have heq : ∀ W, (binOp .eql 31 (.slice (some ⟨b, off, none⟩) n c) (.slice none 0 0)).run Tryd.prog W = .ok (.bool false) W := fun W => Lib.run_eql_slice_nil W _ _ _ _ _ _ _ Tryd.underlying31
  go_enter Tryd.func30, Tryd.ntmps30
  go_wp2_with (at_builtin; refine wpList_append_own_at _ rfl _ _ 31 rfl w.heap.size 5 i0 (.int .u8 0) 1 1 Tryd.underlying31 hi hz0 hz1 hz2 rfl (by decide) (.slice (some ⟨w.heap.size, 0, none⟩) 0 0) 0 [] rfl hemp.out ⟨b, off, none⟩ n c (bys t) rfl HL.out HN.out H1.out (by unfold maxLen; omega) (by omega) (by simp) ?_; intro v' w3 hown' hgrow hnil hloc)
  go_ret
  refine ⟨_, rfl, HR.out _ _ (by simpa using hown'), hb0.out.grown hgrow (by simp) (fun k e => by simp [Value.ownBlock] at e; omega)⟩
end Go.Proofs.YtnhpjacodhdpeaaDoor
