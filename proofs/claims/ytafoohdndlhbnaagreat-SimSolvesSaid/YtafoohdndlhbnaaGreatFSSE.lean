/-
  A row of literals put together, from the left.
  And, Or, Xor of many; Mux; Raw.
  A new graph; a new input.
  Eval: the walk.
  Gate, Inputs; the law package's own 'brought'.
-/
import Derived.Test.YtafoohdndlhbnaaGreatFSSD
import Derived.Deep.Heap
import Derived.Deep.CutBlock
import Derived.Deep.DeepCutAuto
import Derived.Lib.SliceRun
section
namespace Go.Proofs.YtafoohdndlhbnaaGreat
open Go.RowKit Go.Maps

/-- The first j of r put to x, from the left. -/
def manyN (T : Gr → Int → Int → Gr × Int) (G : Gr) (x : Int) (r : List Int) (j : Nat) : Gr × Int := (r.take j).foldl (fun p y => T p.1 p.2 y) (G, x)
theorem manyN_zero (T : Gr → Int → Int → Gr × Int) (G : Gr) (x : Int) (r : List Int) : manyN T G x r 0 = (G, x) := rfl
theorem manyN_succ (T : Gr → Int → Int → Gr × Int) (G : Gr) (x : Int) (r : List Int) (j : Nat) (h : j < r.length) : manyN T G x r (j + 1) = T (manyN T G x r j).1 (manyN T G x r j).2 (r.getD j 0) := by
  unfold manyN
  rw [List.take_add_one, List.foldl_append]
  simp [List.getD, h]
theorem manyN_all (T : Gr → Int → Int → Gr × Int) (z : Int) (G : Gr) (x : Int) (r : List Int) : manyN T G x r r.length = manyG T z G (x :: r) := by
  unfold manyN manyG; rw [List.take_length]

/-- What a way to put two literals together is. -/
def OpOk (T : Gr → Int → Int → Gr × Int) (k : Nat) : Prop := ∀ G a b, Wf G → There G a → There G b → G.nodes.length ≤ 9000000 → Grows G (T G a b).1 (T G a b).2 k
theorem and_ok : OpOk andG 1 := fun _ _ _ h ha hb hl => andG_good h ha hb (by omega)
theorem or_ok : OpOk orG 1 := fun _ _ _ h ha hb hl => orG_good h ha hb (by omega)
theorem xor_ok : OpOk xorG 3 := fun _ _ _ h ha hb hl => xorG_good h ha hb hl
theorem many_good {T : Gr → Int → Int → Gr × Int} {k : Nat} (hT : OpOk T k) {G : Gr} {x : Int} {r : List Int} (hW : Wf G) (hx : There G x) (hr : AllThere G r) (hl : G.nodes.length + k * r.length ≤ 9000000) :
    ∀ j, j ≤ r.length → Grows G (manyN T G x r j).1 (manyN T G x r j).2 (k * j) := by
  intro j
  induction j with
  | zero => intro _; exact ⟨hW, Le.refl _, hx, by simp [manyN_zero], rfl⟩
  | succ j ih =>
    intro hj
    have g := ih (by omega)
    have hlen := g.len
    have hm : k * j ≤ k * r.length := Nat.mul_le_mul_left _ (by omega)
    have g2 := hT _ _ _ g.wf g.there (g.le.there (hr.at (i := j) (by omega))) (by omega)
    rw [manyN_succ _ _ _ _ _ (by omega)]
    exact g.trans g2

/-- A call's contract, as the walk of 'together' takes it. -/
def OpCall (f : FuncId) (T : Gr → Int → Int → Gr × Int) : Prop := ∀ (w : World) (p : Pl) (G : Gr) (a b : Int), Is w p G → Wf G → G.nodes.length ≤ 199000 → There G a → There G b →
    Calls Tryz.prog f #[.pointer (some ⟨p.b, 0, none⟩), .int .u32 a, .int .u32 b] w fun e w' => e = .returned (.tuple #[.int .u32 (T G a b).2, .int .i64 0]) ∧ ∃ p', Step p w p' w' (T G a b).1
theorem and_call : OpCall 104 andG := fun _ _ _ _ _ hI hW hm ha hb => and_any hI hW (by omega) ha.1 hb.1
theorem or_call : OpCall 121 orG := fun _ _ _ _ _ hI hW hm ha hb => or_any hI hW (by omega) ha hb
theorem xor_call : OpCall 105 xorG := fun _ _ _ _ _ hI hW hm ha hb => xor_any hI hW hm ha hb

set_option maxRecDepth 100000 in
set_option maxHeartbeats 1000000 in
theorem together_and {T : Gr → Int → Int → Gr × Int} {k : Nat} (hT : OpOk T k) (hc : OpCall 104 T) {w : World} {p : Pl} {G : Gr} (hG : Is w p G) (hW : Wf G) {a : Option Addr} {n cap : Nat} {l : List Int} (hs : Row .u32 w a n l) (hcap : n ≤ cap) (hap : ∀ x, a = some x → ¬ p.has x.block) (hl : AllThere G l) (hm : G.nodes.length + k * n ≤ 199000) (z : Int) :
    Calls Tryz.prog 103 #[.pointer (some ⟨p.b, 0, none⟩), .int .u32 z, .func (.func 104) #[.pointer (some ⟨p.b, 0, none⟩)] #[], .slice a n cap] w fun e w' => e = .returned (.tuple #[.int .u32 (manyG T z G l).2, .int .i64 0]) ∧ ∃ p', Step p w p' w' (manyG T z G l).1 := by
  have hck := Lib.hid (check_any hG hW (by omega) hs hl (cap := cap))
  have hlen := hs.len
  have HS := Lib.hid hs
  have hlt := hG.lay.lt
  cases l with
  | nil =>
    obtain rfl : n = 0 := by simpa using hlen.symm
    have hdone : Hid (manyG T z G [] = (G, z)) := Lib.hid rfl
    rw [hdone.out]
    have HG := Lib.hid hG
    clear hG hW hs hl HS
    go_enter Tryz.func103, Tryz.ntmps103
    go_wp2_with (go_at_call 111; refine hck.out.mono ?_; rintro e w2 ⟨rfl, hB⟩)
    go_ret2
    exact ⟨rfl, p, Step.of_below HG.out hB⟩
  | cons x r =>
    obtain ⟨m, rfl⟩ : ∃ m, n = m + 1 := ⟨r.length, by simpa using hlen.symm⟩
    obtain ⟨c, rfl⟩ : ∃ c, cap = c + 1 := ⟨cap - 1, by omega⟩
    have hmc : m ≤ c := by omega
    have hrl : r.length = m := by simpa using hlen
    have hx : There G x := hl x (by simp)
    have hr : AllThere G r := fun y hy => hl y (by simp [hy])
    have hgr := Lib.hid (many_good hT hW hx hr (by rw [hrl]; have : k * m ≤ k * (m + 1) := Nat.mul_le_mul_left _ (by omega); omega))
    have hkm := Lib.hid hm
    obtain ⟨b, off, rfl, hb, hcell⟩ := hs.at (by omega)
    have hc0 := hcell 0 (by omega)
    have hle := hs.le
    rw [show (x :: r).getD 0 0 = x from rfl, Nat.add_zero] at hc0
    have hcr : Hid (∀ i, i < m → w.cell? ⟨b, off + 1 + i, none⟩ = some (.int .u32 (r.getD i 0))) := Lib.hid (fun i hi => by have := hcell (i + 1) (by omega); rw [show off + (i + 1) = off + 1 + i by omega] at this; exact this)
    have hall : Hid (manyN T G x r m = manyG T z G (x :: r)) := Lib.hid (by rw [← hrl]; exact manyN_all T z G x r)
    rw [← hall.out]
    have hsucc := Lib.hid (fun j (hj : j < m) => manyN_succ T G x r j (by omega))
    have HG := Lib.hid hG
    have HC := Lib.hid hc
    have HR := Lib.hid hr
    have hm2 : Hid (∀ j, j ≤ m → G.nodes.length + k * j ≤ 199000) := Lib.hid (fun j hj => by have : k * j ≤ k * (m + 1) := Nat.mul_le_mul_left _ (by omega); omega)
    have hnp : Hid (¬ p.has b) := Lib.hid (hap _ rfl)
    have hm0 : Hid ((manyN T G x r 0).1 = G ∧ (manyN T G x r 0).2 = x) := Lib.hid ⟨rfl, rfl⟩
    clear hG hW hs hl HS hcell hc hT hx hr hlen hm hkm hap hall
    generalize hM : manyN T G x r = M at *
    have hM := Lib.hid hM
    by_cases g0 : c = 0
    · subst g0
      obtain rfl : m = 0 := by omega
      go_enter Tryz.func103, Tryz.ntmps103
      go_wp2_with (go_at_call 111; (with_reducible refine hck.out.mono ?_); rintro e w2 ⟨rfl, hB⟩; have d0 := stepc hB hb hc0)
      go_loopw [11, 32] (fun so i wr => ∃ j : Nat, j ≤ 0 ∧ i = .int .i64 j ∧ so = .int .u32 (M j).2 ∧ ∃ p', Hid (Step p w p' wr (M j).1)) (fun _ i _ => 0 - (intOf i).toNat)
      case atStart => exact ⟨0, Nat.zero_le _, rfl, by rw [hm0.out.2], p, by rw [hm0.out.1]; exact Lib.hid (Step.of_below HG.out hB)⟩
      case round =>
        clear hB d0 hc0
        obtain ⟨j, hj, rfl, rfl, p2, hS⟩ := hrel
        by_cases hjm : j < 0
        · exact absurd hjm (by omega)
        · obtain rfl : j = 0 := by omega
          go_wp2
          go_ret2
          exact ⟨rfl, p2, hS.out⟩
    · go_enter Tryz.func103, Tryz.ntmps103
      go_wp2_with (go_at_call 111; (with_reducible refine hck.out.mono ?_); rintro e w2 ⟨rfl, hB⟩; have d0 := stepc hB hb hc0)
      go_loopw [11, 32] (fun so i wr => ∃ j : Nat, j ≤ m ∧ i = .int .i64 j ∧ so = .int .u32 (M j).2 ∧ ∃ p', Hid (Step p w p' wr (M j).1)) (fun _ i _ => m - (intOf i).toNat)
      case atStart => exact ⟨0, Nat.zero_le _, rfl, by rw [hm0.out.2], p, by rw [hm0.out.1]; exact Lib.hid (Step.of_below HG.out hB)⟩
      case round =>
        clear hB d0 hc0
        obtain ⟨j, hj, rfl, rfl, p2, hS⟩ := hrel
        by_cases hjm : j < m
        · have hcj := (kept_cell hS.out.kept hb hnp.out (o := off + 1 + j)).1.trans (hcr.out j hjm)
          have hgj := hgr.out j (by omega)
          have hlen := hgj.len
          have hmj := hm2.out j (by omega)
          have hyT := Lib.hid (hgj.le.there (HR.out.at (i := j) (by omega)))
          have hsj := hsucc.out j hjm
          have hcall := Lib.hid (HC.out wr p2 _ _ _ hS.out.is hgj.wf (by omega) hgj.there hyT.out)
          rw [← hsj, hS.out.b] at hcall
          generalize r.getD j 0 = y at *
          have HSJ := Lib.hid hsj
          clear hsj
          have hgj := Lib.hid hgj
          clear hlen hmj hgr hm2 hsucc
          go_wp2_with (go_at_call 104; refine hcall.out.mono ?_; rintro e w3 ⟨rfl, p3, hS3⟩)
          go_roundw
          case rel => exact ⟨_, _, _, _, _, _, _, _, _, _, _, _, _, _, _, _, _, _, _, _, _, _, ⟨j + 1, by omega, by go_num, rfl, p3, Lib.hid (hS.out.trans hS3)⟩, rfl⟩
          case measure => simp [intOf]; omega
        · obtain rfl : j = m := by omega
          go_wp2
          go_ret2
          exact ⟨rfl, p2, hS.out⟩
end Go.Proofs.YtafoohdndlhbnaaGreat
end

section
namespace Go.Proofs.YtafoohdndlhbnaaGreat
open Go.RowKit Go.Maps

set_option maxRecDepth 100000 in
set_option maxHeartbeats 1000000 in
theorem together_or {T : Gr → Int → Int → Gr × Int} {k : Nat} (hT : OpOk T k) (hc : OpCall 121 T) {w : World} {p : Pl} {G : Gr} (hG : Is w p G) (hW : Wf G) {a : Option Addr} {n cap : Nat} {l : List Int} (hs : Row .u32 w a n l) (hcap : n ≤ cap) (hap : ∀ x, a = some x → ¬ p.has x.block) (hl : AllThere G l) (hm : G.nodes.length + k * n ≤ 199000) (z : Int) :
    Calls Tryz.prog 103 #[.pointer (some ⟨p.b, 0, none⟩), .int .u32 z, .func (.func 121) #[.pointer (some ⟨p.b, 0, none⟩)] #[], .slice a n cap] w fun e w' => e = .returned (.tuple #[.int .u32 (manyG T z G l).2, .int .i64 0]) ∧ ∃ p', Step p w p' w' (manyG T z G l).1 := by
  have hck := Lib.hid (check_any hG hW (by omega) hs hl (cap := cap))
  have hlen := hs.len
  have HS := Lib.hid hs
  have hlt := hG.lay.lt
  cases l with
  | nil =>
    obtain rfl : n = 0 := by simpa using hlen.symm
    have hdone : Hid (manyG T z G [] = (G, z)) := Lib.hid rfl
    rw [hdone.out]
    have HG := Lib.hid hG
    clear hG hW hs hl HS
    go_enter Tryz.func103, Tryz.ntmps103
    go_wp2_with (go_at_call 111; refine hck.out.mono ?_; rintro e w2 ⟨rfl, hB⟩)
    go_ret2
    exact ⟨rfl, p, Step.of_below HG.out hB⟩
  | cons x r =>
    obtain ⟨m, rfl⟩ : ∃ m, n = m + 1 := ⟨r.length, by simpa using hlen.symm⟩
    obtain ⟨c, rfl⟩ : ∃ c, cap = c + 1 := ⟨cap - 1, by omega⟩
    have hmc : m ≤ c := by omega
    have hrl : r.length = m := by simpa using hlen
    have hx : There G x := hl x (by simp)
    have hr : AllThere G r := fun y hy => hl y (by simp [hy])
    have hgr := Lib.hid (many_good hT hW hx hr (by rw [hrl]; have : k * m ≤ k * (m + 1) := Nat.mul_le_mul_left _ (by omega); omega))
    have hkm := Lib.hid hm
    obtain ⟨b, off, rfl, hb, hcell⟩ := hs.at (by omega)
    have hc0 := hcell 0 (by omega)
    have hle := hs.le
    rw [show (x :: r).getD 0 0 = x from rfl, Nat.add_zero] at hc0
    have hcr : Hid (∀ i, i < m → w.cell? ⟨b, off + 1 + i, none⟩ = some (.int .u32 (r.getD i 0))) := Lib.hid (fun i hi => by have := hcell (i + 1) (by omega); rw [show off + (i + 1) = off + 1 + i by omega] at this; exact this)
    have hall : Hid (manyN T G x r m = manyG T z G (x :: r)) := Lib.hid (by rw [← hrl]; exact manyN_all T z G x r)
    rw [← hall.out]
    have hsucc := Lib.hid (fun j (hj : j < m) => manyN_succ T G x r j (by omega))
    have HG := Lib.hid hG
    have HC := Lib.hid hc
    have HR := Lib.hid hr
    have hm2 : Hid (∀ j, j ≤ m → G.nodes.length + k * j ≤ 199000) := Lib.hid (fun j hj => by have : k * j ≤ k * (m + 1) := Nat.mul_le_mul_left _ (by omega); omega)
    have hnp : Hid (¬ p.has b) := Lib.hid (hap _ rfl)
    have hm0 : Hid ((manyN T G x r 0).1 = G ∧ (manyN T G x r 0).2 = x) := Lib.hid ⟨rfl, rfl⟩
    clear hG hW hs hl HS hcell hc hT hx hr hlen hm hkm hap hall
    generalize hM : manyN T G x r = M at *
    have hM := Lib.hid hM
    by_cases g0 : c = 0
    · subst g0
      obtain rfl : m = 0 := by omega
      go_enter Tryz.func103, Tryz.ntmps103
      go_wp2_with (go_at_call 111; (with_reducible refine hck.out.mono ?_); rintro e w2 ⟨rfl, hB⟩; have d0 := stepc hB hb hc0)
      go_loopw [11, 32] (fun so i wr => ∃ j : Nat, j ≤ 0 ∧ i = .int .i64 j ∧ so = .int .u32 (M j).2 ∧ ∃ p', Hid (Step p w p' wr (M j).1)) (fun _ i _ => 0 - (intOf i).toNat)
      case atStart => exact ⟨0, Nat.zero_le _, rfl, by rw [hm0.out.2], p, by rw [hm0.out.1]; exact Lib.hid (Step.of_below HG.out hB)⟩
      case round =>
        clear hB d0 hc0
        obtain ⟨j, hj, rfl, rfl, p2, hS⟩ := hrel
        by_cases hjm : j < 0
        · exact absurd hjm (by omega)
        · obtain rfl : j = 0 := by omega
          go_wp2
          go_ret2
          exact ⟨rfl, p2, hS.out⟩
    · go_enter Tryz.func103, Tryz.ntmps103
      go_wp2_with (go_at_call 111; (with_reducible refine hck.out.mono ?_); rintro e w2 ⟨rfl, hB⟩; have d0 := stepc hB hb hc0)
      go_loopw [11, 32] (fun so i wr => ∃ j : Nat, j ≤ m ∧ i = .int .i64 j ∧ so = .int .u32 (M j).2 ∧ ∃ p', Hid (Step p w p' wr (M j).1)) (fun _ i _ => m - (intOf i).toNat)
      case atStart => exact ⟨0, Nat.zero_le _, rfl, by rw [hm0.out.2], p, by rw [hm0.out.1]; exact Lib.hid (Step.of_below HG.out hB)⟩
      case round =>
        clear hB d0 hc0
        obtain ⟨j, hj, rfl, rfl, p2, hS⟩ := hrel
        by_cases hjm : j < m
        · have hcj := (kept_cell hS.out.kept hb hnp.out (o := off + 1 + j)).1.trans (hcr.out j hjm)
          have hgj := hgr.out j (by omega)
          have hlen := hgj.len
          have hmj := hm2.out j (by omega)
          have hyT := Lib.hid (hgj.le.there (HR.out.at (i := j) (by omega)))
          have hsj := hsucc.out j hjm
          have hcall := Lib.hid (HC.out wr p2 _ _ _ hS.out.is hgj.wf (by omega) hgj.there hyT.out)
          rw [← hsj, hS.out.b] at hcall
          generalize r.getD j 0 = y at *
          have HSJ := Lib.hid hsj
          clear hsj
          have hgj := Lib.hid hgj
          clear hlen hmj hgr hm2 hsucc
          go_wp2_with (go_at_call 121; refine hcall.out.mono ?_; rintro e w3 ⟨rfl, p3, hS3⟩)
          go_roundw
          case rel => exact ⟨_, _, _, _, _, _, _, _, _, _, _, _, _, _, _, _, _, _, _, _, _, _, ⟨j + 1, by omega, by go_num, rfl, p3, Lib.hid (hS.out.trans hS3)⟩, rfl⟩
          case measure => simp [intOf]; omega
        · obtain rfl : j = m := by omega
          go_wp2
          go_ret2
          exact ⟨rfl, p2, hS.out⟩
set_option maxRecDepth 100000 in
set_option maxHeartbeats 1000000 in
theorem together_xor {T : Gr → Int → Int → Gr × Int} {k : Nat} (hT : OpOk T k) (hc : OpCall 105 T) {w : World} {p : Pl} {G : Gr} (hG : Is w p G) (hW : Wf G) {a : Option Addr} {n cap : Nat} {l : List Int} (hs : Row .u32 w a n l) (hcap : n ≤ cap) (hap : ∀ x, a = some x → ¬ p.has x.block) (hl : AllThere G l) (hm : G.nodes.length + k * n ≤ 199000) (z : Int) :
    Calls Tryz.prog 103 #[.pointer (some ⟨p.b, 0, none⟩), .int .u32 z, .func (.func 105) #[.pointer (some ⟨p.b, 0, none⟩)] #[], .slice a n cap] w fun e w' => e = .returned (.tuple #[.int .u32 (manyG T z G l).2, .int .i64 0]) ∧ ∃ p', Step p w p' w' (manyG T z G l).1 := by
  have hck := Lib.hid (check_any hG hW (by omega) hs hl (cap := cap))
  have hlen := hs.len
  have HS := Lib.hid hs
  have hlt := hG.lay.lt
  cases l with
  | nil =>
    obtain rfl : n = 0 := by simpa using hlen.symm
    have hdone : Hid (manyG T z G [] = (G, z)) := Lib.hid rfl
    rw [hdone.out]
    have HG := Lib.hid hG
    clear hG hW hs hl HS
    go_enter Tryz.func103, Tryz.ntmps103
    go_wp2_with (go_at_call 111; refine hck.out.mono ?_; rintro e w2 ⟨rfl, hB⟩)
    go_ret2
    exact ⟨rfl, p, Step.of_below HG.out hB⟩
  | cons x r =>
    obtain ⟨m, rfl⟩ : ∃ m, n = m + 1 := ⟨r.length, by simpa using hlen.symm⟩
    obtain ⟨c, rfl⟩ : ∃ c, cap = c + 1 := ⟨cap - 1, by omega⟩
    have hmc : m ≤ c := by omega
    have hrl : r.length = m := by simpa using hlen
    have hx : There G x := hl x (by simp)
    have hr : AllThere G r := fun y hy => hl y (by simp [hy])
    have hgr := Lib.hid (many_good hT hW hx hr (by rw [hrl]; have : k * m ≤ k * (m + 1) := Nat.mul_le_mul_left _ (by omega); omega))
    have hkm := Lib.hid hm
    obtain ⟨b, off, rfl, hb, hcell⟩ := hs.at (by omega)
    have hc0 := hcell 0 (by omega)
    have hle := hs.le
    rw [show (x :: r).getD 0 0 = x from rfl, Nat.add_zero] at hc0
    have hcr : Hid (∀ i, i < m → w.cell? ⟨b, off + 1 + i, none⟩ = some (.int .u32 (r.getD i 0))) := Lib.hid (fun i hi => by have := hcell (i + 1) (by omega); rw [show off + (i + 1) = off + 1 + i by omega] at this; exact this)
    have hall : Hid (manyN T G x r m = manyG T z G (x :: r)) := Lib.hid (by rw [← hrl]; exact manyN_all T z G x r)
    rw [← hall.out]
    have hsucc := Lib.hid (fun j (hj : j < m) => manyN_succ T G x r j (by omega))
    have HG := Lib.hid hG
    have HC := Lib.hid hc
    have HR := Lib.hid hr
    have hm2 : Hid (∀ j, j ≤ m → G.nodes.length + k * j ≤ 199000) := Lib.hid (fun j hj => by have : k * j ≤ k * (m + 1) := Nat.mul_le_mul_left _ (by omega); omega)
    have hnp : Hid (¬ p.has b) := Lib.hid (hap _ rfl)
    have hm0 : Hid ((manyN T G x r 0).1 = G ∧ (manyN T G x r 0).2 = x) := Lib.hid ⟨rfl, rfl⟩
    clear hG hW hs hl HS hcell hc hT hx hr hlen hm hkm hap hall
    generalize hM : manyN T G x r = M at *
    have hM := Lib.hid hM
    by_cases g0 : c = 0
    · subst g0
      obtain rfl : m = 0 := by omega
      go_enter Tryz.func103, Tryz.ntmps103
      go_wp2_with (go_at_call 111; (with_reducible refine hck.out.mono ?_); rintro e w2 ⟨rfl, hB⟩; have d0 := stepc hB hb hc0)
      go_loopw [11, 32] (fun so i wr => ∃ j : Nat, j ≤ 0 ∧ i = .int .i64 j ∧ so = .int .u32 (M j).2 ∧ ∃ p', Hid (Step p w p' wr (M j).1)) (fun _ i _ => 0 - (intOf i).toNat)
      case atStart => exact ⟨0, Nat.zero_le _, rfl, by rw [hm0.out.2], p, by rw [hm0.out.1]; exact Lib.hid (Step.of_below HG.out hB)⟩
      case round =>
        clear hB d0 hc0
        obtain ⟨j, hj, rfl, rfl, p2, hS⟩ := hrel
        by_cases hjm : j < 0
        · exact absurd hjm (by omega)
        · obtain rfl : j = 0 := by omega
          go_wp2
          go_ret2
          exact ⟨rfl, p2, hS.out⟩
    · go_enter Tryz.func103, Tryz.ntmps103
      go_wp2_with (go_at_call 111; (with_reducible refine hck.out.mono ?_); rintro e w2 ⟨rfl, hB⟩; have d0 := stepc hB hb hc0)
      go_loopw [11, 32] (fun so i wr => ∃ j : Nat, j ≤ m ∧ i = .int .i64 j ∧ so = .int .u32 (M j).2 ∧ ∃ p', Hid (Step p w p' wr (M j).1)) (fun _ i _ => m - (intOf i).toNat)
      case atStart => exact ⟨0, Nat.zero_le _, rfl, by rw [hm0.out.2], p, by rw [hm0.out.1]; exact Lib.hid (Step.of_below HG.out hB)⟩
      case round =>
        clear hB d0 hc0
        obtain ⟨j, hj, rfl, rfl, p2, hS⟩ := hrel
        by_cases hjm : j < m
        · have hcj := (kept_cell hS.out.kept hb hnp.out (o := off + 1 + j)).1.trans (hcr.out j hjm)
          have hgj := hgr.out j (by omega)
          have hlen := hgj.len
          have hmj := hm2.out j (by omega)
          have hyT := Lib.hid (hgj.le.there (HR.out.at (i := j) (by omega)))
          have hsj := hsucc.out j hjm
          have hcall := Lib.hid (HC.out wr p2 _ _ _ hS.out.is hgj.wf (by omega) hgj.there hyT.out)
          rw [← hsj, hS.out.b] at hcall
          generalize r.getD j 0 = y at *
          have HSJ := Lib.hid hsj
          clear hsj
          have hgj := Lib.hid hgj
          clear hlen hmj hgr hm2 hsucc
          go_wp2_with (go_at_call 105; refine hcall.out.mono ?_; rintro e w3 ⟨rfl, p3, hS3⟩)
          go_roundw
          case rel => exact ⟨_, _, _, _, _, _, _, _, _, _, _, _, _, _, _, _, _, _, _, _, _, _, ⟨j + 1, by omega, by go_num, rfl, p3, Lib.hid (hS.out.trans hS3)⟩, rfl⟩
          case measure => simp [intOf]; omega
        · obtain rfl : j = m := by omega
          go_wp2
          go_ret2
          exact ⟨rfl, p2, hS.out⟩

/-- What a call of many literals comes to. -/
def ManyCall (f : FuncId) (T : Gr → Int → Int → Gr × Int) (z : Int) : Prop := ∀ (w : World) (p : Pl) (G : Gr) (a : Option Addr) (n cap : Nat) (l : List Int), Is w p G → Wf G → Row .u32 w a n l → n ≤ cap → (∀ x, a = some x → ¬ p.has x.block) → AllThere G l → G.nodes.length + 3 * n ≤ 199000 →
    Calls Tryz.prog f #[.pointer (some ⟨p.b, 0, none⟩), .slice a n cap] w fun e w' => e = .returned (.tuple #[.int .u32 (manyG T z G l).2, .int .i64 0]) ∧ ∃ p', Step p w p' w' (manyG T z G l).1

theorem And_any : ManyCall 68 andG 1 := by
  intro w p G a n cap l hG hW hs hcap hap hl hm
  have ht := Lib.hid (together_and and_ok and_call hG hW hs hcap hap hl (by omega) 1)
  clear hG hW hs hcap hap hl hm
  generalize manyG andG 1 G l = r at *
  go_enter Tryz.func68, Tryz.ntmps68
  go_wp2_with (go_at_call 103; (with_reducible refine ht.out.mono ?_); rintro e w2 ⟨rfl, p', hS⟩)
  go_ret2
  exact ⟨rfl, p', hS⟩
theorem Xor_any : ManyCall 69 xorG 0 := by
  intro w p G a n cap l hG hW hs hcap hap hl hm
  have ht := Lib.hid (together_xor xor_ok xor_call hG hW hs hcap hap hl (by omega) 0)
  clear hG hW hs hcap hap hl hm
  generalize manyG xorG 0 G l = r at *
  go_enter Tryz.func69, Tryz.ntmps69
  go_wp2_with (go_at_call 103; (with_reducible refine ht.out.mono ?_); rintro e w2 ⟨rfl, p', hS⟩)
  go_ret2
  exact ⟨rfl, p', hS⟩

theorem row3 (w : World) (x y z : Int) (T : Nat) : Row .u32 (w.alloc (.cells #[.int .u32 x, .int .u32 y, .int .u32 z] T)) (some ⟨w.heap.size, 0, none⟩) 3 [x, y, z] := by
  refine ⟨rfl, by omega, .inr ⟨w.heap.size, 0, rfl, by simp, fun i hi => ?_⟩⟩
  match i, hi with
  | 0, _ => simp [go_sem]
  | 1, _ => simp [go_sem]
  | 2, _ => simp [go_sem]
  | i + 3, h => omega
theorem row2 (w : World) (x y : Int) (T : Nat) : Row .u32 (w.alloc (.cells #[.int .u32 x, .int .u32 y] T)) (some ⟨w.heap.size, 0, none⟩) 2 [x, y] := by
  refine ⟨rfl, by omega, .inr ⟨w.heap.size, 0, rfl, by simp, fun i hi => ?_⟩⟩
  match i, hi with
  | 0, _ => simp [go_sem]
  | 1, _ => simp [go_sem]
  | i + 2, h => omega


end Go.Proofs.YtafoohdndlhbnaaGreat
end

section
namespace Go.Proofs.YtafoohdndlhbnaaGreat
open Go.RowKit Go.Maps
set_option maxRecDepth 100000

theorem lay_new {w : World} {N : Nat} {F H : Bool} {m : Option Nat} (h1 : w.heap[N + 1]? = some (.cells #[.bool false, .int .u32 0, .int .u32 0] 143 (0, 0)))
    (h2 : w.heap[N + 1 + 1]? = some (.cells #[.bool F, .bool H, .slice (some ⟨N + 1, 0, none⟩) 1 1, .slice none 0 0, .map m] 138 (0, 0))) :
    Lay w ⟨N + 1 + 1, N + 1, 1, .slice none 0 0, m⟩ F H [⟨false, 0, 0⟩] [] :=
  ⟨h2, ⟨rfl, .inr ⟨N + 1, 1, _, rfl, Nat.zero_le _, h1, Nat.le_refl _, by decide, rfl, rfl⟩⟩, ⟨rfl, .inl ⟨rfl, rfl⟩⟩⟩
theorem mapOf_nil : MapOf [⟨false, 0, 0⟩] (.map []) := by
  refine ⟨isMap_empty, fun a b _ _ => ⟨?_, fun i hi => ?_⟩⟩
  · rfl
  · cases hi
theorem alloc_get (w : World) (o : Obj) {N : Nat} (h : N = w.heap.size) : (w.alloc o).heap[N]? = some o := by subst h; exact Deep.blk_alloc_new w o
theorem alloc_old (w : World) (o : Obj) {N : Nat} {x : Option Obj} (hx : w.heap[N]? = x) (h : N < w.heap.size) : (w.alloc o).heap[N]? = x := (Deep.blk_alloc_lt w o N h).trans hx

theorem new_false (F : Bool) (w : World) :
    Calls Tryz.prog 62 #[.agg #[.bool F, .bool false]] w fun e w' => ∃ p : Pl, e = .returned (.pointer (some ⟨p.b, 0, none⟩)) ∧ Is w' p (newG F false) ∧ Below w.heap.size w w' ∧ ∀ k, p.has k → w.heap.size ≤ k := by
  go_enter Tryz.func62, Tryz.ntmps62
  go_wp2
  go_ret
  refine ⟨⟨w.heap.size + 1 + 1, w.heap.size + 1, 1, .slice none 0 0, none⟩, rfl, ⟨lay_new (alloc_old _ _ (alloc_get _ _ (by simp)) (by simp)) (alloc_get _ _ (by simp)), by unfold MapIn; rfl⟩, (((Below.refl _ _).alloc (Nat.le_refl _) _).alloc (by simp) _).alloc (by simp; omega) _, ?_⟩
  rintro k (h | h | h | h) <;> simp [Value.ownBlock] at h <;> omega
theorem new_true (F : Bool) (w : World) :
    Calls Tryz.prog 62 #[.agg #[.bool F, .bool true]] w fun e w' => ∃ p : Pl, e = .returned (.pointer (some ⟨p.b, 0, none⟩)) ∧ Is w' p (newG F true) ∧ Below w.heap.size w w' ∧ ∀ k, p.has k → w.heap.size ≤ k := by
  have hmm := @run_makeMap Tryz.prog
  go_enter Tryz.func62, Tryz.ntmps62
  go_wp2
  go_ret
  refine ⟨⟨w.heap.size + 1 + 1, w.heap.size + 1, 1, .slice none 0 0, some (w.heap.size + 1 + 1 + 1)⟩, rfl, ⟨lay_new (alloc_old _ _ (alloc_old _ _ (alloc_get _ _ (by simp)) (by simp)) (by simp)) (alloc_old _ _ (alloc_get _ _ (by simp)) (by simp)), ?_⟩, ((((Below.refl _ _).alloc (Nat.le_refl _) _).alloc (by simp) _).alloc (by simp; omega) _).alloc (by simp; omega) _, ?_⟩
  · unfold MapIn
    rw [if_pos (show (newG F true).hash = true from rfl)]
    refine ⟨w.heap.size + 1 + 1 + 1, .map [], rfl, ?_, mapOf_nil⟩
    have := (World.ownsMap_made (H := Unit) (((w.alloc (Obj.cells #[Value.bool F, Value.bool true] 23)).alloc (Obj.cells #[Value.bool false, Value.int IntKind.u32 0, Value.int IntKind.u32 0] 143)).alloc (Obj.cells #[Value.bool F, Value.bool true, Value.slice (some { block := w.heap.size + 1, off := 0 }) 1 1, Value.slice none 0 0, Value.map (some (w.heap.size + 1 + 1 + 1))] 138)) Tryz.prog 141 (plainElem Tryz.prog 40)).mono (Nat.zero_le 1)
    simpa [newG] using this
  · rintro k (h | h | h | h) <;> simp [Value.ownBlock] at h <;> omega
theorem new_any (F H : Bool) (w : World) :
    Calls Tryz.prog 62 #[.agg #[.bool F, .bool H]] w fun e w' => ∃ p : Pl, e = .returned (.pointer (some ⟨p.b, 0, none⟩)) ∧ Is w' p (newG F H) ∧ Below w.heap.size w w' ∧ ∀ k, p.has k → w.heap.size ≤ k := by
  cases H
  · exact new_false F w
  · exact new_true F w

/-- Behind the append and the store of the inputs. -/
theorem in_next {w wa w1 : World} {p : Pl} {F H : Bool} {ns : List Nd} {ins : List Int} (hL : Lay w p F H ns ins) (hb : Below w.heap.size w wa) (x : Int) {g cap : Nat}
    (hown : w1.ownsRow 0 3 1 (.slice (some ⟨g, 0, none⟩) (ins.length + 1) cap) (ins.length + 1) (ins.map (Value.int .i64) ++ [.int .i64 x]))
    (hg : wa.grownBy w1 p.iv.ownBlock) (hat : p.iv.ownBlock = some g ∨ g = wa.heap.size) :
    Lay (w1.setCell ⟨p.b, 3, none⟩ (.slice (some ⟨g, 0, none⟩) (ins.length + 1) cap)) { p with iv := .slice (some ⟨g, 0, none⟩) (ins.length + 1) cap } F H ns (ins ++ [x])
      ∧ Kept p.has w (w1.setCell ⟨p.b, 3, none⟩ (.slice (some ⟨g, 0, none⟩) (ins.length + 1) cap)) ∧ (p.iv.ownBlock = some g ∨ w.heap.size ≤ g) ∧ ∀ (m : Nat) (es : Array MapEntry) (cl : Nat), w.heap[m]? = some (.map es cl) → (w1.setCell ⟨p.b, 3, none⟩ (.slice (some ⟨g, 0, none⟩) (ins.length + 1) cap)).heap[m]? = w.heap[m]? := by
  have hlt := hL.lt
  have hnlt := hL.nlt
  have hsz := hb.size
  obtain ⟨cur, hcur⟩ := hL.nlen
  have hib : ∀ k, p.iv.ownBlock = some k → ∃ c, w.heap[k]? = some (.cells c 3 (0, 0)) := fun k hk => own_type hL.inputs hk
  have nb : some p.b ≠ p.iv.ownBlock := fun e => by
    obtain ⟨c, hc⟩ := hib p.b e.symm
    rw [hL.box] at hc; simp [boxOf] at hc
  have nn : some p.nb ≠ p.iv.ownBlock := fun e => by
    obtain ⟨c, hc⟩ := hib p.nb e.symm
    rw [hcur] at hc; simp at hc
  have hne : p.nb ≠ p.b := by
    intro e
    have := hL.box
    rw [← e, hcur] at this; simp [boxOf] at this
  have hgb : g ≠ p.b := by
    rcases hat with h | h
    · exact fun e => nb (by rw [h, e])
    · omega
  have hbox1 : w1.heap[p.b]? = some (boxOf p F H ns.length) := by
    rw [hg.block p.b (by omega) nb, hb.block _ hlt]; exact hL.box
  refine ⟨⟨?_, ?_, ?_⟩, ?_, ?_, ?_⟩
  · have := box_set (o := 3) hbox1 (.slice (some ⟨g, 0, none⟩) (ins.length + 1) cap)
    simpa [boxOf, Pl.nv] using this
  · refine ⟨hL.nodes.1, ?_⟩
    rcases hL.nodes.2 with h0 | ⟨g', cap', cur', hv, hg', hh, r⟩
    · exact .inl h0
    · have e : g' = p.nb := by simp [Pl.nv] at hv; exact hv.1.symm
      subst e
      exact .inr ⟨_, cap', cur', hv, hg', by rw [Below.heap_setCell _ _ _ _ hne, hg.block _ (by omega) nn, hb.block _ hnlt]; exact hh, r⟩
  · have : (w1.setCell ⟨p.b, 3, none⟩ (.slice (some ⟨g, 0, none⟩) (ins.length + 1) cap)).ownsRow 0 3 1 (.slice (some ⟨g, 0, none⟩) (ins.length + 1) cap) (ins.length + 1) (ins.map (Value.int .i64) ++ [.int .i64 x]) := by
      refine ⟨hown.1, ?_⟩
      rcases hown.2 with h0 | ⟨g', cap', cur', hv, hg', hh, r⟩
      · exact .inl h0
      · simp at hv
        obtain ⟨rfl, rfl⟩ := hv
        exact .inr ⟨_, _, cur', rfl, hg', by rw [Below.heap_setCell _ _ _ _ hgb]; exact hh, r⟩
    simpa using this
  · refine ⟨hg.os.trans hb.os, hg.tape.trans hb.tape, hg.output.trans hb.output, by have := hg.size; simp [World.setCell]; omega, fun k hk hn => ?_⟩
    have n1 : k ≠ p.b := fun e => hn (.inl e)
    have n2 : some k ≠ p.iv.ownBlock := fun e => hn (.inr (.inr (.inl e.symm)))
    rw [Below.heap_setCell _ _ _ _ n1, hg.block k (by omega) n2, hb.block k hk]
  · rcases hat with h | h
    · exact .inl h
    · exact .inr (by omega)
  · intro m es cl hm
    have hml := (Array.getElem?_eq_some_iff.1 hm).1
    have n1 : m ≠ p.b := fun e => by subst e; rw [hL.box] at hm; simp [boxOf] at hm
    have n2 : some m ≠ p.iv.ownBlock := fun e => by
      obtain ⟨c, hc⟩ := hib m e.symm
      rw [hm] at hc; cases hc
    rw [Below.heap_setCell _ _ _ _ n1, hg.block m (by omega) n2, hb.block m hml]
theorem info_int : (Tryz.prog.info? 3).map (fun i => (i.zero, i.size, i.bytes)) = some (some (.int .i64 0), 1, 8) := by kernel_rfl
/-- An input more: what the graph is then. -/
theorem step_in {w w2 w3 : World} {p p1 p2 : Pl} {G : Gr} (hG : Is w p G) (k1 : Kept p.own w w2) (eb1 : p1.b = p.b) (ei1 : p1.iv = p.iv) (em1 : p1.m = p.m) (nb1 : p1.nb = p.nb ∨ w.heap.size ≤ p1.nb)
    (l3 : Lay w3 p2 G.fold G.hash (G.nodes ++ [⟨false, 0, 0⟩]) (G.inputs ++ [(G.nodes.length : Int)])) (k2 : Kept p1.has w2 w3) (eb2 : p2.b = p1.b) (en2 : p2.nb = p1.nb) (em2 : p2.m = p1.m) (iv2 : ∀ k, p2.iv.ownBlock = some k → p1.iv.ownBlock = some k ∨ w2.heap.size ≤ k)
    (hmp : ∀ (m : Nat) (es : Array MapEntry) (cl : Nat), w2.heap[m]? = some (.map es cl) → w3.heap[m]? = w2.heap[m]?) : Step p w p2 w3 (inputG G) := by
  have hs := k1.size
  have new1 : ∀ k, p1.has k → p.has k ∨ w.heap.size ≤ k := by
    intro k hp
    rcases hp with hp | hp | hp | hp
    · exact .inl (.inl (hp.trans eb1))
    · rcases nb1 with h | h
      · exact .inl (.inr (.inl (hp.trans h)))
      · exact .inr (by omega)
    · rw [ei1] at hp; exact .inl (.inr (.inr (.inl hp)))
    · rw [em1] at hp; exact .inl (.inr (.inr (.inr hp)))
  have kh : Kept p.has w w2 := ⟨k1.os, k1.tape, k1.output, k1.size, fun k hk hn => k1.block k hk (fun h => hn (by rcases h with h | h; exact .inl h; exact .inr (.inl h)))⟩
  refine ⟨⟨l3, ?_⟩, kh.trans k2 new1, eb2.trans eb1, fun k hp => ?_⟩
  · have hm := hG.map
    unfold MapIn at hm ⊢
    show if G.hash = true then _ else _
    split
    · rename_i hH
      rw [if_pos hH] at hm
      obtain ⟨mb, D, e, ho, hD⟩ := hm
      obtain ⟨es, cl, hbk, -⟩ := id ho
      have hb2 : w2.heap[mb]? = w.heap[mb]? := k1.block mb ho.lt (map_apart hG.lay hbk)
      exact ⟨mb, D, (em2.trans em1).trans e, (map_block ho ((hmp mb es cl (hb2.trans hbk)).trans hb2)).mono (by rw [inputG_len]; omega), mapOf_input hD⟩
    · rename_i hH
      rw [if_neg hH] at hm
      exact (em2.trans em1).trans hm
  · have : p1.has k ∨ w2.heap.size ≤ k := by
      rcases hp with hp | hp | hp | hp
      · exact .inl (.inl (hp.trans eb2))
      · exact .inl (.inr (.inl (hp.trans en2)))
      · rcases iv2 k hp with h | h
        · exact .inl (.inr (.inr (.inl h)))
        · exact .inr h
      · rw [em2] at hp; exact .inl (.inr (.inr (.inr hp)))
    rcases this with h | h
    · exact new1 k h
    · exact .inr (by omega)

theorem news_one {w : World} {b : Nat} {x : Value} (h0 : w.cell? ⟨b, 0, none⟩ = some x) : ∀ (j : Nat) (u : Value), [x][j]? = some u → w.cell? ((⟨b, 0, none⟩ : Addr).add j) = some u := by
  intro j u h
  match j with
  | 0 => simp at h; subst h; simpa [Addr.add] using h0
  | j + 1 => simp at h

theorem Input_any {w : World} {p : Pl} {G : Gr} (hG : Is w p G) (hW : Wf G) (hm : G.nodes.length ≤ 200000) :
    Calls Tryz.prog 44 #[.pointer (some ⟨p.b, 0, none⟩)] w fun e w' => e = .returned (.tuple #[.int .u32 (2 * (G.nodes.length : Int)), .int .i64 0]) ∧ ∃ p', Step p w p' w' (inputG G) := by
  have h0 := hW.pos
  have hst := Lib.hid (stands_any hG.lay h0)
  have hcn := hW.cnt
  obtain ⟨-, -, c2, -, -, -⟩ := hG.lay.cells
  have hlt := hG.lay.lt
  have hadd := Lib.hid (add_any hG.lay h0 (by omega) ⟨false, 0, 0⟩)
  have hl : IsLit (2 * (G.nodes.length : Int)) := ⟨by omega, by omega⟩
  have hnode : Hid (∀ w, Calls Tryz.prog 59 #[.int .u32 (2 * (G.nodes.length : Int))] w fun e w' => e = .returned (.int .i64 G.nodes.length) ∧ w = w') := Lib.hid (fun w => by have := node_any _ hl w; rw [show 2 * (G.nodes.length : Int) / 2 = G.nodes.length by omega] at this; exact this)
  have HG := Lib.hid hG
  have hil : G.inputs.length ≤ 200000 := by omega
  obtain ⟨i0, hi, hz0, hz1, hz2⟩ := info_parts info_int
  have hkk := Lib.hid (rfl : G.nodes.length = G.nodes.length)
  clear hG hW hcn hl
  go_enter Tryz.func44, Tryz.ntmps44
  go_wp2_with (first
    | (go_at_call 60; refine hst.out.mono ?_; rintro e w2 ⟨rfl, rfl⟩)
    | (go_at_call 90; refine hadd.out.mono ?_; rintro e w2 ⟨rfl, p1, hl1, hk1, eb, ei, em, hnb⟩; obtain ⟨-, -, -, d3, -, fz⟩ := hl1.cells; have f3 := fz 3; rw [eb] at d3 f3; have hio := Lib.hid hl1.inputs; have hltb := hl1.lt; rw [eb] at hltb; have nbv : Hid (some p.b ≠ p1.iv.ownBlock) := Lib.hid (fun e => by obtain ⟨c, hc⟩ := own_type hl1.inputs e.symm; have hbx := hl1.box; rw [eb, hc] at hbx; simp [boxOf] at hbx); have HL1 := Lib.hid hl1; have HK := Lib.hid hk1; have HE := Lib.hid (show p1.b = p.b ∧ p1.iv = p.iv ∧ p1.m = p.m from ⟨eb, ei, em⟩); have HN := Lib.hid hnb; clear hl1 hk1 eb ei em hnb fz))
  go_region_law
    (first
      | (go_simp; go_at_call 59; refine (hnode.out _).mono ?_; rintro e w5 ⟨rfl, rfl⟩)
      | ((refine step_append_lies _ (by rfl) (.tmp 28) (.tmp 31) _ (by rfl) 0 3 i0 (.int .i64 0) 1 8 Tryz.underlying135 hi hz0 hz1 hz2 rfl (by decide) p1.iv G.inputs.length _ (by rfl) (by first | exact hio.out.drew | exact (hio.out.alloc _).drew | exact ((hio.out.alloc _).alloc _).drew) _ 1 1 [.int .i64 G.nodes.length] (by rfl) rfl (by exact news_one (by go_simp)) (by simp [Value.oneCell']) (by decide) (by unfold maxLen; omega) (by omega) (by omega) _ rfl ?_; intro g1 cap1 w1 hown1 hgrow1 hat1 hlt1; obtain ⟨x0, x1⟩ := grow_box hgrow1 (b := p.b) (o := 3) (v := p1.iv) (by go_simp) (by go_simp) nbv.out)))
  all_goals go_wp2
  all_goals go_ret2
  all_goals
    obtain ⟨r1, r2, r3, r4⟩ := in_next HL1.out (by first | exact ((Below.refl _ _).alloc (Nat.le_refl _) _).drew | exact ((Below.refl _ _).drew).alloc (Nat.le_refl _) _) G.nodes.length hown1 hgrow1 hat1
    rw [HE.out.1] at r1 r2 r4
    exact ⟨rfl, _, step_in HG.out HK.out HE.out.1 HE.out.2.1 HE.out.2.2 HN.out r1 r2 HE.out.1.symm rfl rfl (fun k hk => by
      have e : k = g1 := by simp [Value.ownBlock] at hk; exact hk.symm
      subst e; exact r3) r4⟩
end Go.Proofs.YtafoohdndlhbnaaGreat
end

section
namespace Go.Proofs.YtafoohdndlhbnaaGreat
open Go.RowKit Go.Maps

theorem info_u64 : (Tryz.prog.info? 62).map (fun i => (i.zero, i.size, i.bytes)) = some (some (.int .u64 0), 1, 8) := by kernel_rfl
theorem made_zero (kd : IntKind) (n : Nat) : (madeCells (Value.int kd 0).cells (n * 1)).toList = (List.replicate n (0 : Int)).map (Value.int kd) := by
  rw [fillK_zero kd (fun _ => 0) n]
  congr 1
  apply List.ext_getElem
  · simp [fillF, Bits.row]
  · intro i h1 h2; simp [fillF, Bits.row]

theorem node_cells {w : World} {p : Pl} {G : Gr} (hL : Lay w p G.fold G.hash G.nodes G.inputs) {j : Nat} (hj : j < G.nodes.length) :
    w.cell? ⟨p.nb, j * 3, none⟩ = some (.bool (nodeAt G j).gate) ∧ w.cell? ⟨p.nb, j * 3 + 1, none⟩ = some (.int .u32 (nodeAt G j).a) ∧ w.cell? ⟨p.nb, j * 3 + 2, none⟩ = some (.int .u32 (nodeAt G j).b) := by
  have hn : G.nodes[j]? = some (nodeAt G j) := by simp [nodeAt, List.getD, hj]
  obtain ⟨e0, e1, e2⟩ := nodeCells_at _ _ _ hn
  have ho : w.ownsRow 0 143 3 (.slice (some ⟨p.nb, 0, none⟩) G.nodes.length p.nc) G.nodes.length (nodeCells G.nodes) := hL.nodes
  rw [ho.cellAt _ (by omega), ho.cellAt _ (by omega), ho.cellAt _ (by omega), Nat.mul_comm j 3]
  exact ⟨e0, e1, e2⟩

theorem tri_box (w : World) (x y z : Value) (T : Nat) : (w.alloc (.cells #[x, y, z] T)).cell? ⟨w.heap.size, 1, none⟩ = some y ∧ (w.alloc (.cells #[x, y, z] T)).cell? ⟨w.heap.size, 2, none⟩ = some z := ⟨by simp [go_sem], by simp [go_sem]⟩

set_option maxRecDepth 100000 in
set_option maxHeartbeats 1000000 in
theorem Eval_any {w : World} {p : Pl} {G : Gr} (hG : Is w p G) (hW : Wf G) (hm : G.nodes.length ≤ 200000) {a : Option Addr} {cap : Nat} {ins : List Int} (hs : Row .u64 w a G.inputs.length ins) (hI : Words ins) :
    Calls Tryz.prog 47 #[.pointer (some ⟨p.b, 0, none⟩), .slice a G.inputs.length cap] w fun e w' => ∃ (ws : List Int), e = .returned (.tuple #[.slice (some ⟨w.heap.size, 0, none⟩) G.nodes.length G.nodes.length, .int .i64 0])
      ∧ w'.ownsRow w.heap.size 62 1 (.slice (some ⟨w.heap.size, 0, none⟩) G.nodes.length G.nodes.length) G.nodes.length (ws.map (Value.int .u64)) ∧ ws.length = G.nodes.length ∧ Val G ins ws ∧ Below w.heap.size w w' := by
  have h0 := hW.pos
  have hcn := hW.cnt
  have hst := Lib.hid (stands_any hG.lay h0)
  obtain ⟨-, -, c2, c3, -, -⟩ := hG.lay.cells
  obtain ⟨ia, ic, hiv⟩ := own_slice hG.lay.inputs
  rw [hiv] at c3
  have HL := Lib.hid hG.lay
  have hlt := hG.lay.lt
  have hnl := hG.lay.nlt
  have HIV := Lib.hid hiv
  have HS := Lib.hid hs
  have HV := Lib.hid (ev_val hW hI)
  have HW := Lib.hid hW
  have HI := Lib.hid hI
  have hz := Lib.hid (made_zero .u64 G.nodes.length)
  have hin0 := Lib.hid (show in1 G ins 0 = List.replicate G.nodes.length 0 from rfl)
  obtain ⟨i0, hi, hz0, hz1, hz2⟩ := info_parts info_u64
  have hmi : G.inputs.length ≤ 200000 := by omega
  have hN := Lib.hid (show ∀ j, nodeAt G j = nodeAt G j from fun _ => rfl)
  clear hG hW hcn hiv hs hI
  go_enter Tryz.func47, Tryz.ntmps47
  go_wp2_with (first
    | (go_at_call 60; refine hst.out.mono ?_; rintro e w2 ⟨rfl, rfl⟩)
    | (at_make; refine wpList_make_full _ rfl _ _ 44 rfl w.heap.size 62 i0 (.int .u64 0) 1 Tryz.underlying44 hi hz0 hz1 .i64 .i64 G.nodes.length G.nodes.length G.nodes.length rfl rfl rfl rfl (by rw [hz2]; omega) (by unfold maxLen; omega) (Nat.le_refl _) ?_; intro w1 hown hg; have hB1 : Below w.heap.size w w1 := (Below.refl _ _).grown hg (Nat.le_refl _) (fun _ h => by cases h); have d2 := stepc hB1 hlt c2; have d3 := stepc hB1 hlt c3))
  go_loopw [33] (fun i wr => ∃ j : Nat, j ≤ G.inputs.length ∧ i = .int .i64 j ∧ Hid (wr.ownsRow w.heap.size 62 1 (.slice (some ⟨w.heap.size, 0, none⟩) G.nodes.length G.nodes.length) G.nodes.length ((in1 G ins j).map (Value.int .u64))) ∧ Below w.heap.size w wr) (fun i _ => G.inputs.length - (intOf i).toNat)
  case atStart => exact ⟨0, Nat.zero_le _, rfl, Lib.hid (by rw [hin0.out, ← hz.out]; exact hown), hB1⟩
  case round =>
    clear hown hg hB1 d2 d3
    obtain ⟨j, hj, rfl, ho, hB⟩ := hrel
    by_cases hjm : j < G.inputs.length
    · obtain ⟨ib, ic2, hif⟩ := own_form HL.out.inputs (by omega)
      have hif2 := HIV.out.symm.trans hif
      simp at hif2
      obtain ⟨rfl, rfl⟩ := hif2
      have hio : w.ownsRow 0 3 1 (.slice (some ⟨ib, 0, none⟩) G.inputs.length ic) G.inputs.length (G.inputs.map (Value.int .i64)) := by have := HL.out.inputs; rw [HIV.out] at this; exact this
      have hib := own_lt hio
      have hg1 : G.inputs[j]? = some (G.inputs.getD j 0) := by simp [List.getD, hjm]
      have e1 : w.cell? ⟨ib, j, none⟩ = some (.int .i64 (G.inputs.getD j 0)) := by rw [hio.cellAt j (by omega), List.getElem?_map, hg1]; rfl
      obtain ⟨mi, em, m0, nd, hnd, -⟩ := HW.out.ins j _ hg1
      have hml := (List.getElem?_eq_some_iff.1 hnd).1
      rw [em] at e1
      have e1 := stepc hB hib e1
      obtain ⟨b, off, rfl, hb, hc⟩ := HS.out.at (by omega)
      have e2 := stepc hB hb (hc j hjm)
      have hvb := HI.out j
      have hsu : Hid (in1 G ins (j + 1) = (in1 G ins j).set mi (ins.getD j 0)) := Lib.hid (by show (in1 G ins j).set (G.inputs.getD j 0).toNat (ins.getD j 0) = _; rw [em, Int.toNat_natCast])
      have hfr := ho.out.frozenAt mi
      obtain ⟨u, hu⟩ := own_some ho.out hml
      have hst2 := Lib.hid (ho.out.stored mi (.int .u64 (ins.getD j 0))).1
      generalize ins.getD j 0 = v at *
      clear hc hio hif em
      go_wp2
      go_roundw
      case rel =>
        refine ⟨j + 1, by omega, by go_num, ?_, hB.setCell (Nat.le_refl _) _⟩
        have e := hst2.out
        rw [← List.map_set, ← hsu.out] at e
        exact Lib.hid e
      case measure => simp [intOf]; omega
    · obtain rfl : j = G.inputs.length := by omega
      have d2 := stepc hB hlt c2
      have d3 := stepc hB hlt c3
      go_wp2
      go_loopw [51] (fun i wr2 => ∃ j : Nat, j ≤ G.nodes.length ∧ i = .int .i64 j ∧ Hid (wr2.ownsRow w.heap.size 62 1 (.slice (some ⟨w.heap.size, 0, none⟩) G.nodes.length G.nodes.length) G.nodes.length ((ev G (in1 G ins G.inputs.length) j).map (Value.int .u64))) ∧ Below w.heap.size w wr2) (fun i _ => G.nodes.length - (intOf i).toNat)
      case atStart => exact ⟨0, Nat.zero_le _, rfl, ho, hB⟩
      case round =>
        clear hB ho d2 d3
        obtain ⟨j, hj, rfl, ho, hB⟩ := hrel
        by_cases hjn : j < G.nodes.length
        · obtain ⟨n0, n1, n2⟩ := node_cells HL.out hjn
          have n0 := stepc hB hnl n0
          have n1 := stepc hB hnl n1
          have n2 := stepc hB hnl n2
          have hel : (ev G (in1 G ins G.inputs.length) j).length = G.nodes.length := by rw [ev_len, in1_len]
          have hsu : Hid (ev G (in1 G ins G.inputs.length) (j + 1) = if (nodeAt G j).gate then (ev G (in1 G ins G.inputs.length) j).set j (gateW G j (ev G (in1 G ins G.inputs.length) j)) else ev G (in1 G ins G.inputs.length) j) := Lib.hid rfl
          have hwd := Lib.hid (ev_words G (in1_words G HI.out G.inputs.length) j)
          have hlit : Hid ((nodeAt G j).gate = true → IsLit (nodeAt G j).a ∧ IsLit (nodeAt G j).b) := Lib.hid (fun hg => by obtain ⟨x, y, -⟩ := HW.out.gates j _ (by simp [nodeAt, List.getD, hjn]) hg; exact ⟨x, y⟩)
          have hel := Lib.hid hel
          have hwz := hB.size
          unfold gateW at hsu
          generalize (nodeAt G j).gate = ng at *
          generalize (nodeAt G j).a = na at *
          generalize (nodeAt G j).b = nb at *
          generalize ev G (in1 G ins G.inputs.length) j = E at *
          cases ng with
          | false =>
            go_wp2
            go_roundw
            case rel =>
              refine ⟨j + 1, by omega, by go_num, ?_, hB.alloc hwz _⟩
              rw [hsu.out]; exact Lib.hid (ho.out.alloc _)
            case measure => simp [intOf]; omega
          | true =>
            go_wp2
            obtain ⟨w3, hw3, x1, x2, hO3, hB3⟩ : ∃ w3, w3 = wr.alloc (Obj.cells #[Value.bool true, Value.int IntKind.u32 na, Value.int IntKind.u32 nb] 143) ∧ w3.cell? ⟨wr.heap.size, 1, none⟩ = some (.int .u32 na) ∧ w3.cell? ⟨wr.heap.size, 2, none⟩ = some (.int .u32 nb)
                ∧ Hid (w3.ownsRow w.heap.size 62 1 (.slice (some ⟨w.heap.size, 0, none⟩) G.nodes.length G.nodes.length) G.nodes.length (E.map (Value.int .u64))) ∧ Hid (Below w.heap.size w w3) :=
              ⟨_, rfl, (tri_box _ _ _ _ _).1, (tri_box _ _ _ _ _).2, Lib.hid (ho.out.alloc _), Lib.hid (hB.alloc hwz _)⟩
            rw [← hw3]
            have hrow : Row .u64 w3.drew (some ⟨w.heap.size, 0, none⟩) G.nodes.length E := Row.of_own hO3.out.drew hel.out (by omega)
            have hwa := Lib.hid (word_any na _ _ G.nodes.length _ (hlit.out trivial).1 w3.drew hrow hwd.out)
            have hwb := Lib.hid (word_any nb _ _ G.nodes.length _ (hlit.out trivial).2 w3.drew hrow hwd.out)
            have hba := wordV_bd hwd.out na
            have hbb := wordV_bd hwd.out nb
            have hfr := hO3.out.frozenAt j
            obtain ⟨u, hu⟩ := own_some hO3.out hjn
            rw [if_pos trivial] at hsu
            have hst2 := Lib.hid (hO3.out.stored j (.int .u64 (bits .and .u64 (wordV na E) (wordV nb E)))).1
            generalize wordV na E = A at *
            generalize wordV nb E = B at *
            clear hrow hw3 ho n0 n1 n2 hB
            go_region_law (first | (go_simp; go_at_call 93; (with_reducible refine hwa.out.mono ?_); rintro e w4 ⟨rfl, rfl⟩) | (go_simp; go_at_call 93; (with_reducible refine hwb.out.mono ?_); rintro e w4 ⟨rfl, rfl⟩))
            all_goals go_wp2
            all_goals go_roundw
            all_goals try (case measure => simp [intOf]; omega)
            all_goals
              refine ⟨j + 1, by omega, by go_num, ?_, (hB3.out.setCell (Nat.le_refl _) _).drew⟩
              have e := hst2.out.drew
              rw [← List.map_set, ← hsu.out] at e
              exact Lib.hid e
        · obtain rfl : j = G.nodes.length := by omega
          have hev := Lib.hid (show (ev G (in1 G ins G.inputs.length) G.nodes.length).length = G.nodes.length by rw [ev_len, in1_len])
          go_wp2
          go_ret2
          exact ⟨_, rfl, ho.out, hev.out, HV.out, hB⟩
end Go.Proofs.YtafoohdndlhbnaaGreat
end

section
namespace Go.Proofs.YtafoohdndlhbnaaGreat
open Go.RowKit Go.Maps
set_option maxRecDepth 100000

theorem Gate_any {w : World} {p : Pl} {G : Gr} (hG : Is w p G) (hW : Wf G) (hm : G.nodes.length ≤ 200000) {j : Nat} (hj : j < G.nodes.length) :
    Calls Tryz.prog 26 #[.pointer (some ⟨p.b, 0, none⟩), .int .i64 j] w fun e w' => e = .returned (.tuple #[.int .u32 (nodeAt G j).a, .int .u32 (nodeAt G j).b, .bool (nodeAt G j).gate]) ∧ Below w.heap.size w w' := by
  have hno := Lib.hid (nodes_any hG.lay hW.pos)
  obtain ⟨-, -, c2, -, -, -⟩ := hG.lay.cells
  have hlt := hG.lay.lt
  have hnl := hG.lay.nlt
  obtain ⟨n0, n1, n2⟩ := node_cells hG.lay hj
  have g0 : decide ((j : Int) < 0) = false := by simp
  have g1 : decide ((G.nodes.length : Int) ≤ j) = false := by simp; omega
  generalize G.nodes.length = k at *
  generalize (nodeAt G j).gate = ng at *
  generalize (nodeAt G j).a = na at *
  generalize (nodeAt G j).b = nb at *
  clear hG hW
  go_enter Tryz.func26, Tryz.ntmps26
  go_wp2_with (go_at_call 24; (with_reducible refine hno.out.mono ?_); rintro e w2 ⟨rfl, rfl⟩)
  go_quiet (fail)
  go_wp2
  refine bodyPost_ret (v := .tuple #[.int .u32 na, .int .u32 nb, .bool ng]) (by simp [results, Tryz.results26, go_sem]) rfl ⟨rfl, nextw ((Below.refl _ _).alloc (Nat.le_refl _) _) (below_draws _ _)⟩

theorem Inputs_any {w : World} {p : Pl} {G : Gr} (hG : Is w p G) (hW : Wf G) (hm : G.nodes.length ≤ 200000) :
    Calls Tryz.prog 95 #[.pointer (some ⟨p.b, 0, none⟩)] w fun e w' => ∃ (a : Option Addr) (cap : Nat), e = .returned (.slice a G.inputs.length cap) ∧ Below w.heap.size w w' := by
  have hst := Lib.hid (stands_any hG.lay hW.pos)
  have hcn := hW.cnt
  obtain ⟨-, -, -, c3, -, -⟩ := hG.lay.cells
  obtain ⟨ia, ic, hiv⟩ := own_slice hG.lay.inputs
  rw [hiv] at c3
  have hio := hG.lay.inputs
  rw [hiv] at hio
  have hil : G.inputs.length ≤ 200000 := by omega
  have hcl : Hid (∀ w2, w2 = w → Calls Tryz.prog 85 #[.slice ia G.inputs.length ic] w2 fun e w' => ∃ (a : Option Addr) (cap : Nat), e = .returned (.slice a G.inputs.length cap) ∧ Below w.heap.size w w') := by
    show ∀ w2, _
    rintro w2 rfl
    obtain ⟨i0, hi, hz0, hz1, hz2⟩ := info_parts info_int
    have hlen : (G.inputs.map (Value.int .i64)).length = G.inputs.length := by simp
    have hone : ∀ u ∈ G.inputs.map (Value.int .i64), u.oneCell' = true := by
      intro u hu
      obtain ⟨z, -, rfl⟩ := List.mem_map.1 hu
      rfl
    clear hst hcn hiv c3 hG hW
    generalize G.inputs.map (Value.int .i64) = xs at *
    generalize G.inputs.length = m at *
    rcases hio.2 with ⟨h0, h1⟩ | ⟨g, cap', cur, hv, -, -⟩
    · simp at h0
      obtain ⟨rfl, rfl, rfl⟩ := h0
      clear hio hlen hone h1
      have heq : ∀ W, (binOp .eql 135 (.slice none 0 0) (.slice none 0 0)).run Tryz.prog W = .ok (.bool true) W := fun W => Lib.run_eql_slice_nil W _ _ _ _ _ _ _ Tryz.underlying135
      go_enter Tryz.func85, Tryz.ntmps85
      go_wp2
      go_ret
      exact ⟨none, 0, rfl, Below.refl _ _⟩
    · simp at hv
      obtain ⟨rfl, rfl⟩ := hv
      have hlt := own_lt hio
      have hcells := hio.cells (g := g) rfl
      have HO := Lib.hid (fun j u (h : xs[j]? = some u) => hcells j u h)
      have HL := Lib.hid hlen
      have H1 := Lib.hid hone
      have hemp : Hid ((w2.alloc (.cells #[] 3)).ownsRow w2.heap.size 3 1 (.slice (some ⟨w2.heap.size, 0, none⟩) 0 0) 0 []) := Lib.hid ⟨rfl, .inr ⟨w2.heap.size, 0, #[], rfl, Nat.le_refl _, Deep.blk_alloc_new _ _, Nat.le_refl _, by decide, rfl, rfl⟩⟩
      have hb0 : Hid (Below w2.heap.size w2 (w2.alloc (.cells #[] 3))) := Lib.hid ((Below.refl _ _).alloc (Nat.le_refl _) _)
      have hadd : ∀ j, (⟨g, 0, none⟩ : Addr).add j = ⟨g, j, none⟩ := fun j => by simp [Addr.add]; omega
      have HN := Lib.hid (fun j u (h : xs[j]? = some u) => (hb0.out.cell (p := (⟨g, 0, none⟩ : Addr).add j) (by rw [hadd]; exact hlt)).trans (HO.out j u h))
      clear hio hcells hlen hone hadd
      have heq : ∀ W, (binOp .eql 135 (.slice (some ⟨g, 0, none⟩) m ic) (.slice none 0 0)).run Tryz.prog W = .ok (.bool false) W := fun W => Lib.run_eql_slice_nil W _ _ _ _ _ _ _ Tryz.underlying135
      go_enter Tryz.func85, Tryz.ntmps85
      go_wp2_with (at_builtin; refine wpList_append_own_at _ rfl _ _ 135 rfl w2.heap.size 3 i0 (.int .i64 0) 1 8 Tryz.underlying135 hi hz0 hz1 hz2 rfl (by decide) (.slice (some ⟨w2.heap.size, 0, none⟩) 0 0) 0 [] rfl hemp.out ⟨g, 0, none⟩ m ic xs rfl (by rw [HL.out]; omega) HN.out H1.out (by unfold maxLen; omega) (by omega) (by simp) ?_; intro v' w3 hown' hgrow hnil hloc)
      obtain ⟨a3, c3, rfl⟩ := own_slice hown'
      go_wp2
      go_ret
      refine ⟨a3, c3, by simp, ?_⟩
      exact hb0.out.grown hgrow (by simp) (fun k hk => by simp [Value.ownBlock] at hk; omega)
  clear hG hW hcn hio hiv
  generalize G.inputs.length = m at *
  go_enter Tryz.func95, Tryz.ntmps95
  go_wp2_with (first
    | (go_at_call 60; refine hst.out.mono ?_; rintro e w2 ⟨rfl, rfl⟩)
    | (go_at_call 85; refine (hcl.out _ rfl).mono ?_; rintro e w2 ⟨a2, cap2, rfl, hB⟩))
  go_ret
  exact ⟨a2, cap2, rfl, hB⟩
end Go.Proofs.YtafoohdndlhbnaaGreat
end
