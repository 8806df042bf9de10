/-
  What cone tells where something is not there.
-/
import Derived.Test.YtmljpbbnllfgbaaConeY
namespace Go.Proofs.Ytmljpbbnllfgbaa
open Go.RowKit Go.Maps Num
set_option maxRecDepth 100000

theorem stands_nil (w : World) : Calls Try.prog 37 #[.pointer none] w fun e w' => e = .returned (.bool false) ∧ w = w' := by
  go_enter Try.func37, Try.ntmps37
  go_wp2
  go_ret
  exact ⟨rfl, rfl⟩
theorem nodes_nil (w : World) : Calls Try.prog 8 #[.pointer none] w fun e w' => e = .returned (.int .i64 0) ∧ w = w' := by
  have h := Lib.hid (stands_nil w)
  go_enter Try.func8, Try.ntmps8
  go_wp2_with (go_at_call 37; (with_reducible refine h.out.mono ?_); rintro e w2 ⟨rfl, rfl⟩)
  go_ret
  exact ⟨rfl, rfl⟩
theorem ccheck_nil (w : World) (v : Value) : Calls Try.prog 48 #[.pointer none, v] w fun e w' => e = .returned (.int .i64 2) ∧ w = w' := by
  have h := Lib.hid (nodes_nil w)
  go_enter Try.func48, Try.ntmps48
  go_wp2_with (go_at_call 8; (with_reducible refine h.out.mono ?_); rintro e w2 ⟨rfl, rfl⟩)
  go_ret
  exact ⟨rfl, rfl⟩
theorem through_nil (w : World) (u v : Value) : Calls Try.prog 45 #[.pointer none, u, v] w fun e w' => e = .returned (.int .i64 2) ∧ w = w' := by
  have h := Lib.hid (ccheck_nil w v)
  go_enter Try.func45, Try.ntmps45
  go_wp2_with (go_at_call 48; (with_reducible refine h.out.mono ?_); rintro e w2 ⟨rfl, rfl⟩)
  go_ret
  exact ⟨rfl, rfl⟩
theorem through_bad {w : World} {p : Pl} {G : Gr} (hG : Is w p G) (hW : Wf G) (hm : G.nodes.length ≤ 200000) {a : Option Addr} {n c : Nat} {l : List Int} (hs : Row .u32 w a n l) (hl : ∀ x ∈ l, IsLit x) (hb : chkV G l = 1) (u : Value) :
    Calls Try.prog 45 #[.pointer (some ⟨p.b, 0, none⟩), u, .slice a n c] w fun e w' => e = .returned (.int .i64 1) ∧ Below w.heap.size w w' := by
  have h := Lib.hid (ccheck_any (c := c) hG hW hm hs hl)
  rw [hb] at h
  clear hG hW hs hl hb
  go_enter Try.func45, Try.ntmps45
  go_wp2_with (go_at_call 48; (with_reducible refine h.out.mono ?_); rintro e w2 ⟨rfl, hB⟩; have hB := Lib.hid hB)
  go_ret
  exact ⟨rfl, hB.out⟩
theorem Reach_nil (w : World) (v : Value) : Calls Try.prog 18 #[.pointer none, v] w fun e w' => (∃ x, e = .returned (.tuple #[x, .int .i64 2])) ∧ Below w.heap.size w w' := by
  have h := Lib.hid (fun w2 u => through_nil w2 u v)
  go_enter Try.func18, Try.ntmps18
  go_wp2_with (go_at_call 45; (with_reducible refine (h.out _ _).mono ?_); rintro e w2 ⟨rfl, rfl⟩)
  go_ret2
  exact ⟨⟨_, rfl⟩, (Below.refl _ _).alloc (Nat.le_refl _) _⟩
theorem Support_nil (w : World) (v : Value) : Calls Try.prog 19 #[.pointer none, v] w fun e w' => (∃ x, e = .returned (.tuple #[x, .int .i64 2])) ∧ Below w.heap.size w w' := by
  have h := Lib.hid (fun w2 u => through_nil w2 u v)
  go_enter Try.func19, Try.ntmps19
  go_wp2_with (go_at_call 45; (with_reducible refine (h.out _ _).mono ?_); rintro e w2 ⟨rfl, rfl⟩)
  go_ret2
  exact ⟨⟨_, rfl⟩, (Below.refl _ _).alloc (Nat.le_refl _) _⟩
theorem mayStand_nil (w : World) (u v : Value) : Calls Try.prog 41 #[.pointer none, u, v] w fun e w' => e = .returned (.int .i64 2) ∧ w = w' := by
  have h := Lib.hid (nodes_nil w)
  go_enter Try.func41, Try.ntmps41
  go_wp2_with (go_at_call 8; (with_reducible refine h.out.mono ?_); rintro e w2 ⟨rfl, rfl⟩)
  go_ret
  exact ⟨rfl, rfl⟩
theorem Copy_nil (w : World) (u v x : Value) : Calls Try.prog 13 #[.pointer none, u, v, x] w fun e w' => e = .returned (.tuple #[.slice none 0 0, .int .i64 2]) ∧ Below w.heap.size w w' := by
  have h := Lib.hid (fun w2 => mayStand_nil w2 u v)
  go_enter Try.func13, Try.ntmps13
  go_wp2_with (go_at_call 41; (with_reducible refine (h.out _).mono ?_); rintro e w2 ⟨rfl, rfl⟩)
  go_ret2
  exact ⟨rfl, (Below.refl _ _).alloc (Nat.le_refl _) _⟩
theorem Copy_bad {w : World} {p pf : Pl} {T G : Gr} (hT : Is w p T) (hWT : Wf T) (hmT : T.nodes.length ≤ 200000) (hI : Is w pf G) (hW : Wf G) (hm : G.nodes.length ≤ 200000) {a : Option Addr} {n c : Nat} {l : List Int} (hs : Row .u32 w a n l) (hl : ∀ x ∈ l, IsLit x) (hb : mayV T G.inputs.length l = 1) (x : Value) :
    Calls Try.prog 13 #[.pointer (some ⟨p.b, 0, none⟩), .pointer (some ⟨pf.b, 0, none⟩), .slice a n c, x] w fun e w' => e = .returned (.tuple #[.slice none 0 0, .int .i64 1]) ∧ Below w.heap.size w w' := by
  have hb1 : Below w.heap.size w (w.alloc (.cells #[.pointer (some ⟨p.b, 0, none⟩)] 29)) := (Below.refl _ _).alloc (Nat.le_refl _) _
  have h := Lib.hid (mayStand_any (c := c) (hT.below hb1) hWT hmT (hI.below hb1) hW hm (hs.step hb1) hl)
  rw [hb] at h
  have HB := Lib.hid hb1
  clear hT hWT hI hW hs hl hb hb1
  go_enter Try.func13, Try.ntmps13
  go_wp2_with (go_at_call 41; (with_reducible refine h.out.mono ?_); rintro e w2 ⟨rfl, hB⟩; have hB := Lib.hid hB)
  go_ret2
  exact ⟨rfl, nextw HB.out hB.out⟩
theorem Eval_bad {w : World} {p : Pl} {G : Gr} (hG : Is w p G) (hW : Wf G) {a : Option Addr} {n c : Nat} (hn : n ≠ G.inputs.length) :
    Calls Try.prog 49 #[.pointer (some ⟨p.b, 0, none⟩), .slice a n c] w fun e w' => e = .returned (.tuple #[.slice none 0 0, .int .i64 1]) ∧ w = w' := by
  have hst := Lib.hid (stands_any hG.lay hW.pos)
  obtain ⟨-, -, -, c3, -, -⟩ := hG.lay.cells
  obtain ⟨ia, ic, hiv⟩ := own_slice hG.lay.inputs
  rw [hiv] at c3
  have hne := bnet (a := (n : Int)) (b := G.inputs.length) (by omega)
  generalize G.inputs.length = m at *
  clear hG hW hiv hn
  go_enter Try.func49, Try.ntmps49
  go_wp2_with (go_at_call 37; refine hst.out.mono ?_; rintro e w2 ⟨rfl, rfl⟩)
  go_ret2
  exact ⟨rfl, rfl⟩
theorem Words_bad {w : World} {p : Pl} {G : Gr} (hI : Is w p G) (hW : Wf G) (hm : G.nodes.length ≤ 200000) {ia : Option Addr} {iN ic : Nat} (hn : iN ≠ G.inputs.length) {a : Option Addr} {n c : Nat} {l : List Int} (hs : Row .u32 w a n l) (hl : AllThere G l) :
    Calls Try.prog 15 #[.pointer (some ⟨p.b, 0, none⟩), .slice ia iN ic, .slice a n c] w fun e w' => e = .returned (.tuple #[.slice none 0 0, .int .i64 1]) ∧ Below w.heap.size w w' := by
  have hck := Lib.hid (ccheck_any (c := c) hI hW hm hs (fun x hx => (hl x hx).1))
  rw [chk_ok hl] at hck
  have hev := Lib.hid (fun w2 (hb : Below w.heap.size w w2) => Eval_bad (a := ia) (c := ic) (hI.below hb) hW hn)
  clear hI hW hs hl hn
  go_enter Try.func15, Try.ntmps15
  go_wp2_with (first
    | (go_at_call 48; (with_reducible refine hck.out.mono ?_); rintro e w2 ⟨rfl, hB⟩; have hB2 := Lib.hid hB; have hev2 := Lib.hid (hev.out _ hB); clear hB)
    | (go_at_call 49; (with_reducible refine hev2.out.mono ?_); rintro e w3 ⟨rfl, rfl⟩))
  go_ret2
  exact ⟨rfl, hB2.out⟩
theorem Depth_bad {w : World} {p : Pl} {G : Gr} (hI : Is w p G) (hW : Wf G) (hm : G.nodes.length ≤ 200000) {a : Option Addr} {n c : Nat} {l : List Int} (hs : Row .u32 w a n l) (hl : ∀ x ∈ l, IsLit x) (hb : chkV G l = 1) :
    Calls Try.prog 24 #[.pointer (some ⟨p.b, 0, none⟩), .slice a n c] w fun e w' => (∃ x, e = .returned (.tuple #[x, .int .i64 1])) ∧ Below w.heap.size w w' := by
  have hno := Lib.hid (nodes_any hI.lay hW.pos)
  have ht := Lib.hid (fun w2 u (hbb : Below w.heap.size w w2) => through_bad (c := c) (hI.below hbb) hW hm (hs.step hbb) hl hb u)
  obtain ⟨i0, hi, hz0, hz1, hz2⟩ := info_parts info_int
  generalize G.nodes.length = N at *
  clear hI hW hs hl hb
  go_enter Try.func24, Try.ntmps24
  go_wp2_with (first
    | (go_at_call 8; (with_reducible refine hno.out.mono ?_); rintro e w2 ⟨rfl, rfl⟩)
    | (at_make; refine wpList_make_full _ rfl _ _ 37 rfl w.heap.size 3 i0 (.int .i64 0) 1 Try.underlying37 hi hz0 hz1 .i64 .i64 N N N rfl rfl rfl rfl (by rw [hz2]; omega) (by unfold maxLen; omega) (Nat.le_refl _) ?_; intro w1 hown hg; have hB1 : Below w.heap.size w w1 := (Below.refl w.heap.size w).grown hg (Nat.le_refl _) (fun _ h => (by cases h)); have hB2 := Lib.hid (fun o1 o2 => (hB1.alloc hB1.size o1).alloc (hB1.alloc hB1.size o1).size o2); clear hown hg hB1)
    | (go_at_call 45; (with_reducible refine (ht.out _ _ (hB2.out _ _)).mono ?_); rintro e w2 ⟨rfl, hB⟩; have hB := Lib.hid hB; have hq : (w2.cell? ⟨w1.heap.size + 1, 0, none⟩) = some (.int .i64 0) := (stepc hB.out (by simp) (by simp [go_sem])))) 
  go_ret2
  exact ⟨⟨_, rfl⟩, nextw (hB2.out _ _) hB.out⟩
end Go.Proofs.Ytmljpbbnllfgbaa
