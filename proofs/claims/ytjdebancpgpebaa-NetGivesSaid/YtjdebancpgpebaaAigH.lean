/-
  A row of literals put together, from the left.
-/
import Derived.Test.YtjdebancpgpebaaAigG
namespace Go.Proofs.Ytjdebancpgpebaa
open Go.RowKit Go.Maps

/-- The first j of r put to x, from the left. -/
def manyN (T : Gr → Int → Int → Gr × Int) (G : Gr) (x : Int) (r : List Int) (j : Nat) : Gr × Int := (r.take j).foldl (fun p y => T p.1 p.2 y) (G, x)
theorem manyN_zero (T : Gr → Int → Int → Gr × Int) (G : Gr) (x : Int) (r : List Int) : manyN T G x r 0 = (G, x) := rfl
theorem manyN_succ (T : Gr → Int → Int → Gr × Int) (G : Gr) (x : Int) (r : List Int) (j : Nat) (h : j < r.length) : manyN T G x r (j + 1) = T (manyN T G x r j).1 (manyN T G x r j).2 (r.getD j 0) := by
  unfold manyN
  rw [List.take_add_one, List.foldl_append]
  simp [List.getD, h]
theorem manyN_all (T : Gr → Int → Int → Gr × Int) (z : Int) (G : Gr) (x : Int) (r : List Int) : manyN T G x r r.length = manyG T z G (x :: r) := by
  unfold manyN manyG; rw [List.take_length]

/-- What a way to put two literals together is. -/
def OpOk (T : Gr → Int → Int → Gr × Int) (k : Nat) : Prop := ∀ G a b, Wf G → There G a → There G b → G.nodes.length ≤ 9000000 → Grows G (T G a b).1 (T G a b).2 k
theorem and_ok : OpOk andG 1 := fun _ _ _ h ha hb hl => andG_good h ha hb (by omega)
theorem or_ok : OpOk orG 1 := fun _ _ _ h ha hb hl => orG_good h ha hb (by omega)
theorem xor_ok : OpOk xorG 3 := fun _ _ _ h ha hb hl => xorG_good h ha hb hl
theorem many_good {T : Gr → Int → Int → Gr × Int} {k : Nat} (hT : OpOk T k) {G : Gr} {x : Int} {r : List Int} (hW : Wf G) (hx : There G x) (hr : AllThere G r) (hl : G.nodes.length + k * r.length ≤ 9000000) :
    ∀ j, j ≤ r.length → Grows G (manyN T G x r j).1 (manyN T G x r j).2 (k * j) := by
  intro j
  induction j with
  | zero => intro _; exact ⟨hW, Le.refl _, hx, by simp [manyN_zero], rfl⟩
  | succ j ih =>
    intro hj
    have g := ih (by omega)
    have hlen := g.len
    have hm : k * j ≤ k * r.length := Nat.mul_le_mul_left _ (by omega)
    have g2 := hT _ _ _ g.wf g.there (g.le.there (hr.at (i := j) (by omega))) (by omega)
    rw [manyN_succ _ _ _ _ _ (by omega)]
    exact g.trans g2

/-- A call's contract, as the walk of 'together' takes it. -/
def OpCall (f : FuncId) (T : Gr → Int → Int → Gr × Int) : Prop := ∀ (w : World) (p : Pl) (G : Gr) (a b : Int), Is w p G → Wf G → G.nodes.length ≤ 199000 → There G a → There G b →
    Calls Try.prog f #[.pointer (some ⟨p.b, 0, none⟩), .int .u32 a, .int .u32 b] w fun e w' => e = .returned (.tuple #[.int .u32 (T G a b).2, .int .i64 0]) ∧ ∃ p', Step p w p' w' (T G a b).1
theorem and_call : OpCall 55 andG := fun _ _ _ _ _ hI hW hm ha hb => and_any hI hW (by omega) ha.1 hb.1
theorem or_call : OpCall 72 orG := fun _ _ _ _ _ hI hW hm ha hb => or_any hI hW (by omega) ha hb
theorem xor_call : OpCall 56 xorG := fun _ _ _ _ _ hI hW hm ha hb => xor_any hI hW hm ha hb

set_option maxRecDepth 100000 in
set_option maxHeartbeats 1000000 in
theorem together_and {T : Gr → Int → Int → Gr × Int} {k : Nat} (hT : OpOk T k) (hc : OpCall 55 T) {w : World} {p : Pl} {G : Gr} (hG : Is w p G) (hW : Wf G) {a : Option Addr} {n cap : Nat} {l : List Int} (hs : Row .u32 w a n l) (hcap : n ≤ cap) (hap : ∀ x, a = some x → ¬ p.has x.block) (hl : AllThere G l) (hm : G.nodes.length + k * n ≤ 199000) (z : Int) :
    Calls Try.prog 54 #[.pointer (some ⟨p.b, 0, none⟩), .int .u32 z, .func (.func 55) #[.pointer (some ⟨p.b, 0, none⟩)] #[], .slice a n cap] w fun e w' => e = .returned (.tuple #[.int .u32 (manyG T z G l).2, .int .i64 0]) ∧ ∃ p', Step p w p' w' (manyG T z G l).1 := by
  have hck := Lib.hid (check_any hG hW (by omega) hs hl (cap := cap))
  have hlen := hs.len
  have HS := Lib.hid hs
  have hlt := hG.lay.lt
  cases l with
  | nil =>
    obtain rfl : n = 0 := by simpa using hlen.symm
    have hdone : Hid (manyG T z G [] = (G, z)) := Lib.hid rfl
    rw [hdone.out]
    have HG := Lib.hid hG
    clear hG hW hs hl HS
    go_enter Try.func54, Try.ntmps54
    go_wp2_with (go_at_call 65; refine hck.out.mono ?_; rintro e w2 ⟨rfl, hB⟩)
    go_ret2
    exact ⟨rfl, p, Step.of_below HG.out hB⟩
  | cons x r =>
    obtain ⟨m, rfl⟩ : ∃ m, n = m + 1 := ⟨r.length, by simpa using hlen.symm⟩
    obtain ⟨c, rfl⟩ : ∃ c, cap = c + 1 := ⟨cap - 1, by omega⟩
    have hmc : m ≤ c := by omega
    have hrl : r.length = m := by simpa using hlen
    have hx : There G x := hl x (by simp)
    have hr : AllThere G r := fun y hy => hl y (by simp [hy])
    have hgr := Lib.hid (many_good hT hW hx hr (by rw [hrl]; have : k * m ≤ k * (m + 1) := Nat.mul_le_mul_left _ (by omega); omega))
    have hkm := Lib.hid hm
    obtain ⟨b, off, rfl, hb, hcell⟩ := hs.at (by omega)
    have hc0 := hcell 0 (by omega)
    have hle := hs.le
    rw [show (x :: r).getD 0 0 = x from rfl, Nat.add_zero] at hc0
    have hcr : Hid (∀ i, i < m → w.cell? ⟨b, off + 1 + i, none⟩ = some (.int .u32 (r.getD i 0))) := Lib.hid (fun i hi => by have := hcell (i + 1) (by omega); rw [show off + (i + 1) = off + 1 + i by omega] at this; simpa using this)
    have hall : Hid (manyN T G x r m = manyG T z G (x :: r)) := Lib.hid (by rw [← hrl]; exact manyN_all T z G x r)
    rw [← hall.out]
    have hsucc := Lib.hid (fun j (hj : j < m) => manyN_succ T G x r j (by omega))
    have HG := Lib.hid hG
    have HC := Lib.hid hc
    have HR := Lib.hid hr
    have hm2 : Hid (∀ j, j ≤ m → G.nodes.length + k * j ≤ 199000) := Lib.hid (fun j hj => by have : k * j ≤ k * (m + 1) := Nat.mul_le_mul_left _ (by omega); omega)
    have hnp : Hid (¬ p.has b) := Lib.hid (hap _ rfl)
    have hm0 : Hid ((manyN T G x r 0).1 = G ∧ (manyN T G x r 0).2 = x) := Lib.hid ⟨rfl, rfl⟩
    clear hG hW hs hl HS hcell hc hT hx hr hlen hm hkm hap hall
    generalize hM : manyN T G x r = M at *
    have hM := Lib.hid hM
    by_cases g0 : c = 0
    · subst g0
      obtain rfl : m = 0 := by omega
      go_enter Try.func54, Try.ntmps54
      go_wp2_with (go_at_call 65; (with_reducible refine hck.out.mono ?_); rintro e w2 ⟨rfl, hB⟩; have d0 := stepc hB hb hc0)
      go_loopw [11, 32] (fun so i wr => ∃ j : Nat, j ≤ 0 ∧ i = .int .i64 j ∧ so = .int .u32 (M j).2 ∧ ∃ p', Hid (Step p w p' wr (M j).1)) (fun _ i _ => 0 - (intOf i).toNat)
      case atStart => exact ⟨0, Nat.zero_le _, rfl, by rw [hm0.out.2], p, by rw [hm0.out.1]; exact Lib.hid (Step.of_below HG.out hB)⟩
      case round =>
        clear hB d0 hc0
        obtain ⟨j, hj, rfl, rfl, p2, hS⟩ := hrel
        by_cases hjm : j < 0
        · exact absurd hjm (by omega)
        · obtain rfl : j = 0 := by omega
          go_wp2
          go_ret2
          exact ⟨rfl, p2, hS.out⟩
    · go_enter Try.func54, Try.ntmps54
      go_wp2_with (go_at_call 65; (with_reducible refine hck.out.mono ?_); rintro e w2 ⟨rfl, hB⟩; have d0 := stepc hB hb hc0)
      go_loopw [11, 32] (fun so i wr => ∃ j : Nat, j ≤ m ∧ i = .int .i64 j ∧ so = .int .u32 (M j).2 ∧ ∃ p', Hid (Step p w p' wr (M j).1)) (fun _ i _ => m - (intOf i).toNat)
      case atStart => exact ⟨0, Nat.zero_le _, rfl, by rw [hm0.out.2], p, by rw [hm0.out.1]; exact Lib.hid (Step.of_below HG.out hB)⟩
      case round =>
        clear hB d0 hc0
        obtain ⟨j, hj, rfl, rfl, p2, hS⟩ := hrel
        by_cases hjm : j < m
        · have hcj := (kept_cell hS.out.kept hb hnp.out (o := off + 1 + j)).1.trans (hcr.out j hjm)
          have hgj := hgr.out j (by omega)
          have hlen := hgj.len
          have hmj := hm2.out j (by omega)
          have hyT := Lib.hid (hgj.le.there (HR.out.at (i := j) (by omega)))
          have hsj := hsucc.out j hjm
          have hcall := Lib.hid (HC.out wr p2 _ _ _ hS.out.is hgj.wf (by omega) hgj.there hyT.out)
          rw [← hsj, hS.out.b] at hcall
          generalize r.getD j 0 = y at *
          have HSJ := Lib.hid hsj
          clear hsj
          have hgj := Lib.hid hgj
          clear hlen hmj hgr hm2 hsucc
          go_wp2_with (go_at_call 55; refine hcall.out.mono ?_; rintro e w3 ⟨rfl, p3, hS3⟩)
          go_roundw
          case rel => exact ⟨_, _, _, _, _, _, _, _, _, _, _, _, _, _, _, _, _, _, _, _, _, _, ⟨j + 1, by omega, by go_num, rfl, p3, Lib.hid (hS.out.trans hS3)⟩, rfl⟩
          case measure => simp [intOf]; omega
        · obtain rfl : j = m := by omega
          go_wp2
          go_ret2
          exact ⟨rfl, p2, hS.out⟩
end Go.Proofs.Ytjdebancpgpebaa
