/-
  The document's text: digits; literals, a blank ahead of each.
  The document's text: literals, a blank ahead of each.
  The document's lines, plainly.
  The document's netlist is looked at: isInput, Driven.
  The document's netlist is looked at: buses.
-/
import Derived.Test.YtafoohdndlhbnaaGreatDoorFEOL
import Derived.Test.YtafoohdndlhbnaaGreatDoorFEOR
import Derived.Test.YtafoohdndlhbnaaGreatDoorFEON
import Derived.Test.YtafoohdndlhbnaaGreatDoorFEOE
import Derived.Test.YtafoohdndlhbnaaGreatDoorFEOI
import Derived.BigQuiet
section
namespace Go.Proofs.YtafoohdndlhbnaaGreatDoor
open Go.RowKit Go.Maps Bits
set_option maxRecDepth 100000

theorem digits_more {v : Nat} (h : 9 < v) : Lib.decDigits v = Lib.decDigits (v / 10) ++ [UInt8.ofNat (48 + v % 10)] := by
  rw [Lib.decDigits, dif_neg (by omega)]
theorem digits_one {v : Nat} (h : ¬ 9 < v) : Lib.decDigits v = [UInt8.ofNat (48 + v)] := by
  rw [Lib.decDigits, dif_pos (by omega)]
theorem conv_digit (d : Nat) (hd : d ≤ 9) (W : World) : (convert 29 9 (.slice (some ⟨W.heap.size, 0, none⟩) 1 1)).run Tryz.prog (W.alloc (.cells #[.int .u8 (48 + (d : Int))] 5)) = .ok (.string ⟨#[UInt8.ofNat (48 + d)]⟩) (W.alloc (.cells #[.int .u8 (48 + (d : Int))] 5)) := by
  refine run_convert_bytes_back (W.alloc (.cells #[.int .u8 (48 + (d : Int))] 5)) _ _ 5 ⟨W.heap.size, 0, none⟩ 1 [UInt8.ofNat (48 + d)] Tryz.underlying29 Tryz.underlying5 Tryz.underlying9 (fun j hj => ?_)
  have hj0 : j = 0 := by simpa using hj
  subst hj0
  simp [go_sem, Addr.add]
  omega
theorem str_app (a b : List UInt8) : (⟨a.toArray⟩ ++ ⟨b.toArray⟩ : ByteArray) = ⟨(a ++ b).toArray⟩ := ByteArray.ext (by simp [ByteArray.data_append])
theorem digits_tail {u v : Nat} {t : List UInt8} (hu : u < 18446744073709551616) (h : Lib.decDigits u = Lib.decDigits v ++ t) : t.length ≤ 1000 := by
  have h1 := decS_len (u : Int) (by omega) (by omega)
  have h2 := congrArg List.length h
  rw [List.length_append] at h2
  have h3 : (Lib.decDigits u).length ≤ 1000 := h1
  omega
set_option maxHeartbeats 2000000 in
theorem Digits_any (u : Nat) (hu : u < 18446744073709551616) (w : World) :
    Calls Tryz.prog 120 #[.int .u64 u] w fun e w' => e = .returned (.string ⟨(Lib.decDigits u).toArray⟩) ∧ Below w.heap.size w w' := by
  go_enter Tryz.func120, Tryz.ntmps120
  go_wp2
  go_loopw [0, 3] (fun n s wr => ∃ (v : Nat) (t : List UInt8), v ≤ u ∧ n = .int .u64 v ∧ s = .string ⟨t.toArray⟩ ∧ Hid (Lib.decDigits u = Lib.decDigits v ++ t) ∧ Hid (Below w.heap.size w wr)) (fun n s _ => (intOf n).toNat)
  case atStart => exact ⟨u, [], Nat.le_refl _, rfl, rfl, Lib.hid (by simp), Lib.hid (Below.refl _ _)⟩
  case round =>
    obtain ⟨v, t, hv, rfl, rfl, hD, hB⟩ := hrel
    by_cases hlt : 9 < v
    · have hl2 : (9 : Int) < v := by omega
      obtain ⟨d, hd⟩ : ∃ d : Nat, d = v % 10 := ⟨_, rfl⟩
      have hd9 : d ≤ 9 := by omega
      have hcv := conv_digit d hd9 wr
      have hm : (v : Int) % 10 = (d : Int) := by omega
      rw [← hm] at hcv
      clear hm
      have hb4 := Lib.hid (fun o => nextw hB.out ((Below.refl wr.heap.size wr).alloc (Nat.le_refl _) o))
      have hD2 : Hid (Lib.decDigits u = (Lib.decDigits (v / 10) ++ [UInt8.ofNat (48 + d)]) ++ t) := Lib.hid (hD.out.trans (by rw [digits_more hlt, ← hd]))
      have htl := digits_tail hu hD.out
      go_wp2
      exact ⟨⟨v / 10, UInt8.ofNat (48 + d) :: t, by omega, by rw [show ((v / 10 : Nat) : Int) = (v : Int) / 10 by omega], by rw [hd, UInt8.ofNat_add]; exact congrArg Value.string (str_app [_] _), by have := hD2.out; rw [List.append_assoc] at this; exact Lib.hid this, Lib.hid (hb4.out _)⟩, by simp [intOf]; omega⟩
    · have hl2 : ¬ (9 : Int) < v := by omega
      have hcv := conv_digit v (by omega) wr
      have hb4 := Lib.hid (fun o => nextw hB.out ((Below.refl wr.heap.size wr).alloc (Nat.le_refl _) o))
      have htl := digits_tail hu hD.out
      go_wp2
      go_ret
      exact ⟨by rw [hD.out, digits_one hlt, UInt8.ofNat_add]; exact congrArg (fun s => Ending.returned (.string s)) (str_app [_] _), hb4.out _⟩
end Go.Proofs.YtafoohdndlhbnaaGreatDoor
end

section
namespace Go.Proofs.YtafoohdndlhbnaaGreatDoor
open Go.RowKit Go.Maps Bits
set_option maxRecDepth 100000

def wordsB (l : List Int) : List UInt8 := l.flatMap (fun x => 32 :: Lib.decDigits x.toNat)
theorem wordsB_snoc (l : List Int) (x : Int) : wordsB (l ++ [x]) = (wordsB l ++ [32]) ++ Lib.decDigits x.toNat := by simp [wordsB]
theorem digits_len (x : Int) (h : 0 ≤ x ∧ x < 4294967296) : (Lib.decDigits x.toNat).length ≤ 1000 := decS_len x h.1 (by omega)
theorem wordsB_len : ∀ (l : List Int), (∀ x ∈ l, 0 ≤ x ∧ x < 4294967296) → (wordsB l).length ≤ 1001 * l.length
  | [], _ => by simp [wordsB]
  | x :: l, h => by
    have h1 := wordsB_len l (fun y hy => h y (by simp [hy]))
    have h2 := digits_len x (h x (by simp))
    have e : (wordsB (x :: l)).length = 1 + (Lib.decDigits x.toNat).length + (wordsB l).length := by
      simp [wordsB]
      omega
    rw [e, List.length_cons]
    omega
set_option maxHeartbeats 2000000 in
theorem rwords_any {w : World} {a : Option Addr} {n c : Nat} {l : List Int} (h : Row .u32 w a n l) (hl : ∀ x ∈ l, 0 ≤ x ∧ x < 4294967296) (hn : n ≤ 100) :
    Calls Tryz.prog 44 #[.slice a n c] w fun e w' => e = .returned (.string ⟨(wordsB l).toArray⟩) ∧ Below w.heap.size w w' := by
  have H := Lib.hid h
  have hlen := h.len
  have hl := Lib.hid hl
  clear h
  go_enter Tryz.func44, Tryz.ntmps44
  go_wp2
  go_loopw [3, 4] (fun s i wr => ∃ j : Nat, j ≤ n ∧ i = .int .i64 j ∧ s = .string ⟨(wordsB (l.take j)).toArray⟩ ∧ Hid (Below w.heap.size w wr)) (fun _ i _ => n - (intOf i).toNat)
  case atStart => exact ⟨0, Nat.zero_le _, rfl, rfl, Lib.hid (Below.refl _ _)⟩
  case round =>
    obtain ⟨j, hj, rfl, rfl, hB⟩ := hrel
    by_cases hlt : j < n
    · obtain ⟨b, off, rfl, hb, hc⟩ := H.out.at (by omega)
      have c1 := stepc hB.out hb (hc j hlt)
      have hjl : j < l.length := by omega
      have hx := hl.out l[j] (List.getElem_mem hjl)
      have hT := wordsB_len (l.take j) (fun x hx => hl.out x (List.mem_of_mem_take hx))
      rw [List.length_take] at hT
      have hT2 : (wordsB (l.take j)).length ≤ 100100 := by have := Nat.mul_le_mul_left 1001 (show min j l.length ≤ 100 by omega); omega
      have hs := Lib.hid (wordsB_snoc (l.take j) l[j])
      have hs2 : Hid (l.take (j + 1) = l.take j ++ [l[j]]) := Lib.hid (by rw [List.take_add_one, List.getElem?_eq_getElem hjl]; rfl)
      have hd := digits_len l[j] hx
      have e0 : l.getD j 0 = l[j] := by rw [List.getD_eq_getElem?_getD, List.getElem?_eq_getElem hjl]; rfl
      rw [e0] at c1
      have hs2 := Lib.hid (congrArg wordsB hs2.out)
      clear hc hT e0
      generalize wordsB (l.take j) = T at *
      obtain ⟨k, hk⟩ : ∃ k : Nat, l[j] = k := ⟨l[j].toNat, by omega⟩
      rw [hk] at c1 hs hs2 hd
      have hdg := Lib.hid (fun W => Digits_any k (by omega) W)
      have hw : IntKind.u64.wrap (k : Int) = k := by rw [IntKind.wrap_u64]; omega
      rw [Int.toNat_natCast] at hd hs
      have hs2 := Lib.hid (hs2.out.trans hs.out)
      clear hs hk hx
      generalize Lib.decDigits k = D at *
      go_wp2_with (go_at_call 120; (with_reducible refine (hdg.out _).mono ?_); rintro e w3 ⟨rfl, hb3⟩)
      exact ⟨⟨j + 1, by omega, by go_num, by rw [hs2.out]; exact congrArg Value.string ((congrArg (· ++ _) (str_app T [32])).trans (str_app (T ++ [32]) D)), Lib.hid (nextw hB.out hb3)⟩, by simp [intOf]; omega⟩
    · obtain rfl : j = n := by omega
      have hf : l.take j = l := List.take_of_length_le (by omega)
      rw [hf]
      go_wp2
      go_ret
      exact ⟨rfl, hB.out⟩
end Go.Proofs.YtafoohdndlhbnaaGreatDoor
end

section
namespace Go.Proofs.YtafoohdndlhbnaaGreatDoor
open Go.RowKit Go.Maps Bits
set_option maxRecDepth 100000

theorem tail_flat : ∀ (r : List (List UInt8)), Lib.joinTail [32] r = r.flatMap (fun z => 32 :: z)
  | [] => rfl
  | x :: r => by
    have h := tail_flat r
    simp [Lib.joinTail] at h ⊢
    exact h
theorem spellS_flat (x : ByteArray) (xs : List ByteArray) : spellS (x :: xs) = ⟨(x.data.toList ++ xs.flatMap (fun z => 32 :: z.data.toList)).toArray⟩ := by
  unfold spellS
  rw [List.map_cons, Lib.join_cons, tail_flat, List.flatMap_map]
theorem arr_list (a : ByteArray) : a = ⟨a.data.toList.toArray⟩ := ByteArray.ext (by simp)
theorem decS_list (x : Int) : (decS x).data.toList = Lib.decDigits x.toNat := by unfold decS; simp
theorem range_lits (l : List Int) : (List.range l.length).map (fun i => decS (l.getD i 0)) = l.map decS := by
  apply List.ext_getElem
  · simp
  · intro i h1 h2
    simp at h1 h2
    simp [h2]
theorem flat_words (l : List Int) : (l.map decS).flatMap (fun z => 32 :: z.data.toList) = wordsB l := by
  rw [List.flatMap_map]
  unfold wordsB
  refine congrArg (fun f => l.flatMap f) (funext fun x => ?_)
  show 32 :: (decS x).data.toList = _
  rw [decS_list]
theorem bus_doc (s s7 : ByteArray) (h7 : s7 = ⟨(s.data.toList ++ [32]).toArray⟩) (b : Bus) : (s7 ++ b.name) ++ (⟨(wordsB b.lits).toArray⟩ : ByteArray) = busS s b := by
  unfold busS
  rw [range_lits, List.cons_append, List.cons_append, List.nil_append, spellS_flat, List.flatMap_cons, flat_words, h7]
  rw [arr_list b.name, str_app, str_app]
  simp
theorem words_doc (s : ByteArray) (l : List Int) : s ++ (⟨(wordsB l).toArray⟩ : ByteArray) = spellS (s :: l.map decS) := by
  rw [spellS_flat, flat_words]
  rw [show s ++ (⟨(wordsB l).toArray⟩ : ByteArray) = ⟨s.data.toList.toArray⟩ ++ (⟨(wordsB l).toArray⟩ : ByteArray) by rw [← arr_list], str_app]
theorem dec0 : decS 0 = ⟨#[48]⟩ := by kernel_rfl
theorem dec1 : decS 1 = ⟨#[49]⟩ := by kernel_rfl
theorem reg_doc (r : Rg) : sLatch ++ (⟨(wordsB [r.q, r.d, r.en, if r.init then 1 else 0]).toArray⟩ : ByteArray) = regS r := by
  rw [words_doc]
  unfold regS
  cases r.init
  · show spellS [sLatch, decS r.q, decS r.d, decS r.en, decS 0] = _
    rw [dec0]
    rfl
  · show spellS [sLatch, decS r.q, decS r.d, decS r.en, decS 1] = _
    rw [dec1]
    rfl
theorem gate_doc (G : Gr) (j : Nat) : sAnd ++ (⟨(wordsB [2 * (j : Int), (nodeAt G j).a, (nodeAt G j).b]).toArray⟩ : ByteArray) = gateS G j := words_doc _ _
theorem model_doc (s s7 : ByteArray) (h7 : s7 = ⟨(s.data.toList ++ [32]).toArray⟩) (n : ByteArray) : s7 ++ n = spellS [s, n] := by
  rw [spellS_flat, h7]
  rw [arr_list n, str_app]
  simp
theorem end_doc : sEnd = spellS [sEnd] := by rw [spellS_flat]; rfl
def textL (L : List ByteArray) : List UInt8 := L.flatMap (fun x => x.data.toList ++ [10])
theorem textL_next {L : List ByteArray} {j : Nat} (hj : j < L.length) : textL (L.take (j + 1)) = (textL (L.take j) ++ L[j].data.toList) ++ [10] := by
  unfold textL
  rw [List.take_add_one, List.getElem?_eq_getElem hj, Option.toList_some, List.flatMap_append, List.append_assoc]
  simp
theorem textL_len : ∀ (L : List ByteArray), (∀ x ∈ L, x.size ≤ 1000000) → (textL L).length ≤ 1000001 * L.length
  | [], _ => by simp [textL]
  | x :: L, h => by
    have h1 := textL_len L (fun y hy => h y (by simp [hy]))
    have h2 : x.data.toList.length ≤ 1000000 := h x (by simp)
    have e : textL (x :: L) = (x.data.toList ++ [10]) ++ textL L := by simp [textL]
    rw [e, List.length_append, List.length_append, List.length_cons, List.length_cons, List.length_nil]
    omega
end Go.Proofs.YtafoohdndlhbnaaGreatDoor
end

section
namespace Go.Proofs.YtafoohdndlhbnaaGreatDoor
open Go.RowKit Go.Maps Bits
set_option maxRecDepth 100000

set_option maxHeartbeats 1000000 in
theorem isInput_any {w0 w : World} {B Bg : Nat} {p : RPl} {N : Nt} (h : RN w0 w B Bg p N) {k : Nat} (h0 : 0 < k) (hk : k < N.g.nodes.length) (hg : (nodeAt N.g k).gate = false) (hm : N.g.nodes.length ≤ 190000) :
    Calls Tryz.prog 117 #[.pointer (some ⟨B, 0, none⟩), .int .u32 (2 * (k : Int))] w fun e w' => e = .returned (.bool true) ∧ Below w.heap.size w w' := by
  obtain ⟨_, _, _, _, _, _, -, -, -, a0, -, -, -, -, -⟩ := h.cells
  obtain ⟨-, -, g2, -⟩ := h.g.cells
  obtain ⟨n0, -, -⟩ := h.g.node h0 hk
  unfold nodeAt at hg
  rw [hg] at n0
  obtain ⟨x, hx⟩ : ∃ x : Int, x = 2 * (k : Int) := ⟨_, rfl⟩
  rw [← hx]
  have hx0 : 0 < x := by omega
  have hx2 : x % 2 = 0 := by omega
  have hxd : x / 2 = (k : Int) := by omega
  have hkl : (k : Int) < (N.g.nodes.length : Int) := by omega
  have hbw := Lib.hid (Below.refl w.heap.size w)
  clear h hg hx
  generalize N.g.nodes.length = nn at *
  go_enter Tryz.func117, Tryz.ntmps117
  go_wp2
  go_ret
  exact ⟨rfl, hbw.out⟩
theorem count_take {l : List Int} {j : Nat} (x : Int) (hj : j < l.length) : (l.take (j + 1)).count x = (l.take j).count x + (if l[j] = x then 1 else 0) := by
  rw [List.take_add_one, List.getElem?_eq_getElem hj, List.count_append]
  by_cases e : l[j] = x
  · simp [e]
  · simp [e]
theorem count_lits {L : List Bus} {j : Nat} (x : Int) (hj : j < L.length) : (litsOf (L.take (j + 1))).count x = (litsOf (L.take j)).count x + L[j].lits.count x := by
  rw [List.take_add_one, List.getElem?_eq_getElem hj]
  show (List.flatMap (fun b : Bus => b.lits) (L.take j ++ [L[j]])).count x = _
  rw [List.flatMap_append, List.count_append]
  simp [litsOf]
theorem lits_len {L : List Bus} (hL : ∀ b ∈ L, b.lits.length ≤ 64) : (litsOf L).length ≤ 64 * L.length := by
  induction L with
  | nil => simp [litsOf]
  | cons b L ih =>
    have h1 := ih (fun c hc => hL c (by simp [hc]))
    have h2 := hL b (by simp)
    have e : (litsOf (b :: L)).length = b.lits.length + (litsOf L).length := by simp [litsOf]
    rw [e, List.length_cons]
    omega
set_option maxHeartbeats 4000000 in
theorem Driven_any {w0 w : World} {B Bg : Nat} {p : RPl} {N : Nt} (h : RN w0 w B Bg p N) (hi : N.ins.length ≤ 10000) (hr : N.regs.length ≤ 10000) (hL : ∀ b ∈ N.ins, b.lits.length ≤ 64) (x : Int) :
    Calls Tryz.prog 119 #[.pointer (some ⟨B, 0, none⟩), .int .u32 x] w fun e w' => e = .returned (.int .i64 ((takenN N).count x : Nat)) ∧ Below w.heap.size w w' := by
  obtain ⟨ia, ic, ra, rc, oa, oc, e1, e2, -, -, -, a2, a3, -, -⟩ := h.cells
  have hlt := h.lt
  have hI := Lib.hid (show RBusRow w0 w (.slice ia N.ins.length ic) N.ins by have := h.ins; rw [e1] at this; exact this)
  have hR := Lib.hid (show RRegRow w0 w (.slice ra N.regs.length rc) N.regs by have := h.regs; rw [e2] at this; exact this)
  have hcI := Lib.hid (fun j (hj : j < N.ins.length) => count_lits x hj)
  have hcR := Lib.hid (fun j (hj : j < (N.regs.map (fun r => r.q)).length) => count_take x hj)
  have hbI := Lib.hid (fun j => (Nat.le_trans List.count_le_length (Nat.le_trans (lits_len (fun b hb => hL b (List.mem_of_mem_take hb))) (Nat.mul_le_mul_left 64 (by rw [List.length_take]; omega))) : (litsOf (N.ins.take j)).count x ≤ 64 * N.ins.length))
  have hbR := Lib.hid (fun j => (Nat.le_trans List.count_le_length (by rw [List.length_take, List.length_map]; omega) : ((N.regs.map (fun r => r.q)).take j).count x ≤ N.regs.length))
  have htk : Hid ((takenN N).count x = (litsOf (N.ins.take N.ins.length)).count x + ((N.regs.map (fun r => r.q)).take N.regs.length).count x) := Lib.hid (by
    unfold takenN
    rw [List.count_append, List.take_length, List.take_of_length_le (by simp)])
  have hL := Lib.hid hL
  obtain ⟨ni, hni⟩ : ∃ ni, N.ins.length = ni := ⟨_, rfl⟩
  obtain ⟨nr, hnr⟩ : ∃ nr, N.regs.length = nr := ⟨_, rfl⟩
  rw [hni] at a2 hI hbI htk hi
  rw [hnr] at a3 hR hbR htk hr
  have hni := Lib.hid hni
  have hnr := Lib.hid hnr
  rw [htk.out]
  clear h e1 e2 htk
  go_enter Tryz.func119, Tryz.ntmps119
  go_wp2
  go_loopw [5, 6, 7] (fun m i _ wr => ∃ j : Nat, j ≤ ni ∧ i = .int .i64 j ∧ m = .int .i64 ((litsOf (N.ins.take j)).count x : Nat) ∧ Hid (Below w.heap.size w wr)) (fun _ i _ _ => ni - (intOf i).toNat)
  case atStart => exact ⟨0, Nat.zero_le _, rfl, rfl, Lib.hid (Below.refl _ _)⟩
  case round =>
    obtain ⟨j, hj, rfl, rfl, hB⟩ := hrel
    have d2 := stepc hB.out hlt a2
    by_cases hlt2 : j < ni
    · have hjl : j < N.ins.length := by rw [hni.out]; exact hlt2
      obtain ⟨g, la, lc, rfl, hgl, b0, b1, hu⟩ := hI.out.at hjl
      have hu := Lib.hid hu.row
      have hll := hL.out _ (List.getElem_mem hjl)
      have hcn := Lib.hid (hcI.out j hjl)
      have hbj := hbI.out j
      generalize (litsOf (N.ins.take j)).count x = m0 at *
      have hct := Lib.hid (fun k (hk : k < N.ins[j].lits.length) => count_take x hk)
      have hce : Hid ((N.ins[j].lits.take N.ins[j].lits.length).count x = N.ins[j].lits.count x) := Lib.hid (by rw [List.take_length])
      have hcb := Lib.hid (fun k => (Nat.le_trans List.count_le_length (by rw [List.length_take]; omega) : (N.ins[j].lits.take k).count x ≤ 64))
      obtain ⟨wo, rfl⟩ : ∃ wo : World, wo = wr := ⟨_, rfl⟩
      rw [← hce.out] at hcn
      clear b0 hce
      obtain ⟨lits, hlits⟩ : ∃ lits, N.ins[j].lits = lits := ⟨_, rfl⟩
      rw [hlits] at b1 hu hll hcn hct hcb
      clear hlits
      obtain ⟨ll, hll2⟩ : ∃ ll, lits.length = ll := ⟨_, rfl⟩
      rw [hll2] at b1 hu hll hcn
      have hll2 := Lib.hid hll2
      have y1 := stepc hB.out hgl b1
      go_wp2
      go_loopw [5, 7] (fun m k wr => ∃ i : Nat, i ≤ ll ∧ k = .int .i64 i ∧ m = .int .i64 ((m0 + (lits.take i).count x : Nat)) ∧ Hid (Below w.heap.size w wr)) (fun _ k _ => ll - (intOf k).toNat)
      case atStart => exact ⟨0, Nat.zero_le _, rfl, by simp, hB⟩
      case round =>
        clear hB d2 y1
        obtain ⟨i, hil, rfl, rfl, hB⟩ := hrel
        have d2 := stepc hB.out hlt a2
        have y1 := stepc hB.out hgl b1
        by_cases hik : i < ll
        · have hik2 : i < lits.length := by rw [hll2.out]; exact hik
          obtain ⟨bu, off, rfl, hbu, huc⟩ := hu.out.at (by omega)
          have y2 := stepc hB.out hbu (huc i hik)
          rw [show lits.getD i 0 = lits[i] by rw [List.getD_eq_getElem?_getD, List.getElem?_eq_getElem hik2]; rfl] at y2
          have hc1 := hct.out i hik2
          have hc2 := hcb.out i
          have hc3 := hcb.out (i + 1)
          clear huc
          generalize (lits.take i).count x = m1 at *
          rw [hc1] at hc3
          have hc1 := Lib.hid hc1
          generalize lits[i] = z at *
          by_cases hq : z = x
          · rw [if_pos hq] at hc3
            subst hq
            go_wp2
            exact ⟨⟨i + 1, by omega, by go_num, by rw [hc1.out, if_pos rfl]; go_num, hB⟩, by simp [intOf]; omega⟩
          · rw [if_neg hq] at hc3
            go_wp2
            exact ⟨⟨i + 1, by omega, by go_num, by rw [hc1.out, if_neg hq]; rfl, hB⟩, by simp [intOf]; omega⟩
        · obtain rfl : i = ll := by omega
          go_wp2
          exact ⟨⟨j + 1, by omega, by go_num, by rw [hcn.out], hB⟩, by simp [intOf]; omega⟩
    · obtain rfl : j = ni := by omega
      have hbj := hbI.out j
      have d3 := stepc hB.out hlt a3
      obtain ⟨m0, hm0⟩ : ∃ m0, (litsOf (N.ins.take j)).count x = m0 := ⟨_, rfl⟩
      rw [hm0] at hbj ⊢
      have hm0 := Lib.hid hm0
      clear hI hcI hbI
      go_wp2
      go_loopw [5, 8] (fun m k wr => ∃ i : Nat, i ≤ nr ∧ k = .int .i64 i ∧ m = .int .i64 ((m0 + ((N.regs.map (fun r => r.q)).take i).count x : Nat)) ∧ Hid (Below w.heap.size w wr)) (fun _ k _ => nr - (intOf k).toNat)
      case atStart => exact ⟨0, Nat.zero_le _, rfl, by simp, hB⟩
      case round =>
        clear hB d2 d3
        obtain ⟨i, hil, rfl, rfl, hB⟩ := hrel
        have d3 := stepc hB.out hlt a3
        by_cases hik : i < nr
        · have hik2 : i < N.regs.length := by rw [hnr.out]; exact hik
          obtain ⟨g, rfl, hgl, b0, b1, b2, b3⟩ := hR.out.at hik2
          have y0 := stepc hB.out hgl b0
          have hc1 := hcR.out i (by rw [List.length_map]; exact hik2)
          have hc2 := hbR.out i
          have hc3 := hbR.out (i + 1)
          rw [hc1] at hc3
          have hc1 := Lib.hid hc1
          rw [List.getElem_map] at hc3
          have hq2 : Hid ((N.regs.map (fun r => r.q))[i]'(by rw [List.length_map]; exact hik2) = N.regs[i].q) := Lib.hid (List.getElem_map _)
          rw [hq2.out] at hc1
          clear b0 b1 b2 b3 hq2
          generalize ((N.regs.map (fun r => r.q)).take i).count x = m1 at *
          generalize N.regs[i].q = z at *
          by_cases hq : z = x
          · rw [if_pos hq] at hc3
            subst hq
            go_wp2
            exact ⟨⟨i + 1, by omega, by go_num, by rw [hc1.out, if_pos rfl]; go_num, hB⟩, by simp [intOf]; omega⟩
          · rw [if_neg hq] at hc3
            go_wp2
            exact ⟨⟨i + 1, by omega, by go_num, by rw [hc1.out, if_neg hq]; rfl, hB⟩, by simp [intOf]; omega⟩
        · obtain rfl : i = nr := by omega
          go_wp2
          go_ret
          exact ⟨by rw [hm0.out]; rfl, hB.out⟩
end Go.Proofs.YtafoohdndlhbnaaGreatDoor
end

section
namespace Go.Proofs.YtafoohdndlhbnaaGreatDoor
open Go.RowKit Go.Maps Bits
set_option maxRecDepth 100000

set_option maxHeartbeats 1000000 in
theorem rFind_miss {w0 w : World} {a : Option Addr} {n c : Nat} {L : List Bus} (h : RBusRow w0 w (.slice a n c) L) (hn : n = L.length) (k : Nat) (hk : k ≤ n) (s : ByteArray) (hm : ∀ j (hj : j < L.length), j < k → sameN L[j].name s = false) :
    Calls Tryz.prog 184 #[.slice a k c, .string s] w fun e w' => e = .returned (.tuple #[.slice none 0 0, .bool false]) ∧ Below w.heap.size w w' := by
  have hle : n ≤ 9223372036854775807 := by obtain ⟨K, hK⟩ := h; rw [hn]; exact own_maxLen hK.own
  have H := Lib.hid h
  have HN := Lib.hid hn
  have hm := Lib.hid hm
  clear h hn
  go_enter Tryz.func184, Tryz.ntmps184
  go_wp2
  go_loopw [6] (fun i wr => wr = w ∧ ∃ j : Nat, j ≤ k ∧ i = .int .i64 j) (fun i _ => k - (intOf i).toNat)
  case atStart => exact ⟨rfl, 0, Nat.zero_le _, rfl⟩
  case round =>
    obtain ⟨rfl, j, hj, rfl⟩ := hrel
    by_cases hlt : j < k
    · have hjL : j < L.length := by rw [← HN.out]; omega
      obtain ⟨g, la, lc, rfl, hg, b0, b1, -⟩ := H.out.at hjL
      have hs' := hm.out j hjL hlt
      unfold sameN at hs'
      generalize L[j].name = nm at *
      generalize L[j].lits.length = ll at *
      go_wp2
      exact ⟨⟨trivial, j + 1, by omega, by go_num⟩, by simp [intOf]; omega⟩
    · obtain rfl : j = k := by omega
      go_wp2
      go_ret2
      exact ⟨rfl, Below.refl _ _⟩
theorem apart_at {L : List Bus} (h : NamesApart L) {j : Nat} (hj : j < L.length) : ∀ i (hi : i < L.length), i < j → sameN L[i].name L[j].name = false := fun i hi hij => List.pairwise_iff_getElem.1 h i j hi hj hij
set_option maxHeartbeats 4000000 in
theorem rbuses_any {w0 w : World} {B Bg : Nat} {p : RPl} {N : Nt} (h : RN w0 w B Bg p N) (hm : N.g.nodes.length ≤ 190000) {a : Option Addr} {n c : Nat} {L : List Bus} (hv : RBusRow w0 w (.slice a n c) L) (hn : n = L.length) (hok : BusesOk L) (ht : ∀ b ∈ L, AllThere N.g b.lits) :
    Calls Tryz.prog 116 #[.pointer (some ⟨B, 0, none⟩), .slice a n c] w fun e w' => e = .returned (.bool true) ∧ Below w.heap.size w w' := by
  have hle : n ≤ 9223372036854775807 := by obtain ⟨K, hK⟩ := hv; rw [hn]; exact own_maxLen hK.own
  have hnc : n ≤ c := by obtain ⟨K, hK⟩ := hv; have ho := hK.own; rw [← hn] at ho; exact own_cap ho
  obtain ⟨_, _, _, _, _, _, -, -, -, a0, -, -, -, -, -⟩ := h.cells
  have hlt := h.lt
  have HV := Lib.hid hv
  have HN := Lib.hid hn
  have hfi := Lib.hid (fun (wr : World) (hb : Below w.heap.size w wr) (j : Nat) (hj : j < L.length) (q : World) => rFind_miss ((hv.below hb).below (ext_below wr q)) hn j (by omega) L[j].name (fun i hi hij => apart_at hok.apart hj i hi hij))
  have hmn := Lib.hid (fun (j : Nat) (hj : j < L.length) (q : World) => (by
    have := rMayName_any L[j].name q
    rw [hok.name _ (List.getElem_mem hj)] at this
    exact this.mono (fun _ _ hh => ⟨hh.1, hh.2 ▸ Below.refl _ _⟩) : Calls Tryz.prog 100 #[.string L[j].name] q fun e w' => e = .returned (.bool true) ∧ Below q.heap.size q w'))
  have hth := Lib.hid (fun (wr : World) (hb : Below w.heap.size w wr) (j : Nat) (hj : j < L.length) (la : Option Addr) (lc : Nat) (hu : Row .u32 w la L[j].lits.length L[j].lits) (q : World) => (by
    have := rhas_any ((h.g.step hb).step (ext_below wr q)) (by omega) (cap := lc) ((hu.step hb).step (ext_below wr q)) (fun x hx => (ht _ (List.getElem_mem hj) x hx).1)
    rw [allHas_of (ht _ (List.getElem_mem hj))] at this
    exact this : Calls Tryz.prog 118 #[.pointer (some ⟨Bg, 0, none⟩), .slice la L[j].lits.length lc] (ext wr q) fun e w' => e = .returned (.bool true) ∧ Below (ext wr q).heap.size (ext wr q) w'))
  have hwd := Lib.hid (fun (j : Nat) (hj : j < L.length) => hok.wide _ (List.getElem_mem hj))
  clear h hv hn hok ht hm
  go_enter Tryz.func116, Tryz.ntmps116
  go_wp2
  go_loopw [5, 6, 7] (fun i _ _ wr => ∃ j : Nat, j ≤ n ∧ i = .int .i64 j ∧ Hid (Below w.heap.size w wr)) (fun i _ _ _ => n - (intOf i).toNat)
  case atStart => exact ⟨0, Nat.zero_le _, rfl, Lib.hid (Below.refl _ _)⟩
  case round =>
    obtain ⟨j, hj, rfl, hB⟩ := hrel
    by_cases hlt2 : j < n
    · have hjl : j < L.length := by rw [← HN.out]; exact hlt2
      obtain ⟨g, la, lc, rfl, hgl, b0, b1, hu⟩ := HV.out.at hjl
      have x0 := fun q => stepc (ext_below wr q) (Nat.lt_of_lt_of_le hgl hB.out.size) (stepc hB.out hgl b0)
      have f1 := Lib.hid (fun q => hfi.out wr hB.out j hjl q)
      have hjc : (j : Int) ≤ c := by omega
      have hwj := hwd.out j hjl
      have hmj := Lib.hid (hmn.out j hjl)
      have htj := Lib.hid (fun (W : World) (hb : Below w.heap.size w W) q => hth.out W hb j hjl la lc hu.row q)
      have hw1 : decide (((L[j].lits.length : Nat) : Int) < 1) = false := by simp; omega
      have hw2 : decide (64 < ((L[j].lits.length : Nat) : Int)) = false := by simp; omega
      clear hu
      generalize L[j].name = nm at *
      generalize L[j].lits.length = ll at *
      go_wp2
      (refine wp_region_ext (by kernel_rfl) (by kernel_rfl) ?_; (repeat (go_big_quiet_step ((go_at_call 184; exact Calls.ext_of (f1.out _))))); refine wpQuiet_nil ?_; intro w2 hw'; have hb2 := below_of_ext hw'; clear hw')
      have hB2 := Lib.hid (nextw hB.out hb2)
      have y0 := fun q => stepc (ext_below w2 q) (Nat.lt_of_lt_of_le hgl hB2.out.size) (stepc hB2.out hgl b0)
      have y1 := fun q => stepc (ext_below w2 q) (Nat.lt_of_lt_of_le hgl hB2.out.size) (stepc hB2.out hgl b1)
      have y2 := fun q => stepc (ext_below w2 q) (Nat.lt_of_lt_of_le hlt hB2.out.size) (stepc hB2.out hlt a0)
      have f2 := Lib.hid (fun q => htj.out w2 hB2.out q)
      clear x0 f1 hb2 b0 b1
      go_wp2
      (refine wp_region_ext (by kernel_rfl) (by kernel_rfl) ?_; (repeat (go_big_quiet_step ((first | (go_at_call 100; exact Calls.ext_of (hmj.out _)) | (go_at_call 118; exact Calls.ext_of (f2.out _)))))); refine wpQuiet_nil ?_; intro w2 hw'; have hb2 := below_of_ext hw'; clear hw')
      go_wp2
      exact ⟨⟨j + 1, by omega, by go_num, Lib.hid (nextw hB2.out hb2)⟩, by simp [intOf]; omega⟩
    · obtain rfl : j = n := by omega
      go_wp2
      go_ret
      exact ⟨rfl, hB.out⟩
end Go.Proofs.YtafoohdndlhbnaaGreatDoor
end
