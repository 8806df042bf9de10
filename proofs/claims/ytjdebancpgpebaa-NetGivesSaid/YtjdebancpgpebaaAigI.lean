/-
  And, Or, Xor of many; Mux; Raw.
-/
import Derived.Test.YtjdebancpgpebaaAigH
namespace Go.Proofs.Ytjdebancpgpebaa
open Go.RowKit Go.Maps

set_option maxRecDepth 100000 in
set_option maxHeartbeats 1000000 in
theorem together_or {T : Gr → Int → Int → Gr × Int} {k : Nat} (hT : OpOk T k) (hc : OpCall 72 T) {w : World} {p : Pl} {G : Gr} (hG : Is w p G) (hW : Wf G) {a : Option Addr} {n cap : Nat} {l : List Int} (hs : Row .u32 w a n l) (hcap : n ≤ cap) (hap : ∀ x, a = some x → ¬ p.has x.block) (hl : AllThere G l) (hm : G.nodes.length + k * n ≤ 199000) (z : Int) :
    Calls Try.prog 54 #[.pointer (some ⟨p.b, 0, none⟩), .int .u32 z, .func (.func 72) #[.pointer (some ⟨p.b, 0, none⟩)] #[], .slice a n cap] w fun e w' => e = .returned (.tuple #[.int .u32 (manyG T z G l).2, .int .i64 0]) ∧ ∃ p', Step p w p' w' (manyG T z G l).1 := by
  have hck := Lib.hid (check_any hG hW (by omega) hs hl (cap := cap))
  have hlen := hs.len
  have HS := Lib.hid hs
  have hlt := hG.lay.lt
  cases l with
  | nil =>
    obtain rfl : n = 0 := by simpa using hlen.symm
    have hdone : Hid (manyG T z G [] = (G, z)) := Lib.hid rfl
    rw [hdone.out]
    have HG := Lib.hid hG
    clear hG hW hs hl HS
    go_enter Try.func54, Try.ntmps54
    go_wp2_with (go_at_call 65; refine hck.out.mono ?_; rintro e w2 ⟨rfl, hB⟩)
    go_ret2
    exact ⟨rfl, p, Step.of_below HG.out hB⟩
  | cons x r =>
    obtain ⟨m, rfl⟩ : ∃ m, n = m + 1 := ⟨r.length, by simpa using hlen.symm⟩
    obtain ⟨c, rfl⟩ : ∃ c, cap = c + 1 := ⟨cap - 1, by omega⟩
    have hmc : m ≤ c := by omega
    have hrl : r.length = m := by simpa using hlen
    have hx : There G x := hl x (by simp)
    have hr : AllThere G r := fun y hy => hl y (by simp [hy])
    have hgr := Lib.hid (many_good hT hW hx hr (by rw [hrl]; have : k * m ≤ k * (m + 1) := Nat.mul_le_mul_left _ (by omega); omega))
    have hkm := Lib.hid hm
    obtain ⟨b, off, rfl, hb, hcell⟩ := hs.at (by omega)
    have hc0 := hcell 0 (by omega)
    have hle := hs.le
    rw [show (x :: r).getD 0 0 = x from rfl, Nat.add_zero] at hc0
    have hcr : Hid (∀ i, i < m → w.cell? ⟨b, off + 1 + i, none⟩ = some (.int .u32 (r.getD i 0))) := Lib.hid (fun i hi => by have := hcell (i + 1) (by omega); rw [show off + (i + 1) = off + 1 + i by omega] at this; simpa using this)
    have hall : Hid (manyN T G x r m = manyG T z G (x :: r)) := Lib.hid (by rw [← hrl]; exact manyN_all T z G x r)
    rw [← hall.out]
    have hsucc := Lib.hid (fun j (hj : j < m) => manyN_succ T G x r j (by omega))
    have HG := Lib.hid hG
    have HC := Lib.hid hc
    have HR := Lib.hid hr
    have hm2 : Hid (∀ j, j ≤ m → G.nodes.length + k * j ≤ 199000) := Lib.hid (fun j hj => by have : k * j ≤ k * (m + 1) := Nat.mul_le_mul_left _ (by omega); omega)
    have hnp : Hid (¬ p.has b) := Lib.hid (hap _ rfl)
    have hm0 : Hid ((manyN T G x r 0).1 = G ∧ (manyN T G x r 0).2 = x) := Lib.hid ⟨rfl, rfl⟩
    clear hG hW hs hl HS hcell hc hT hx hr hlen hm hkm hap hall
    generalize hM : manyN T G x r = M at *
    have hM := Lib.hid hM
    by_cases g0 : c = 0
    · subst g0
      obtain rfl : m = 0 := by omega
      go_enter Try.func54, Try.ntmps54
      go_wp2_with (go_at_call 65; (with_reducible refine hck.out.mono ?_); rintro e w2 ⟨rfl, hB⟩; have d0 := stepc hB hb hc0)
      go_loopw [11, 32] (fun so i wr => ∃ j : Nat, j ≤ 0 ∧ i = .int .i64 j ∧ so = .int .u32 (M j).2 ∧ ∃ p', Hid (Step p w p' wr (M j).1)) (fun _ i _ => 0 - (intOf i).toNat)
      case atStart => exact ⟨0, Nat.zero_le _, rfl, by rw [hm0.out.2], p, by rw [hm0.out.1]; exact Lib.hid (Step.of_below HG.out hB)⟩
      case round =>
        clear hB d0 hc0
        obtain ⟨j, hj, rfl, rfl, p2, hS⟩ := hrel
        by_cases hjm : j < 0
        · exact absurd hjm (by omega)
        · obtain rfl : j = 0 := by omega
          go_wp2
          go_ret2
          exact ⟨rfl, p2, hS.out⟩
    · go_enter Try.func54, Try.ntmps54
      go_wp2_with (go_at_call 65; (with_reducible refine hck.out.mono ?_); rintro e w2 ⟨rfl, hB⟩; have d0 := stepc hB hb hc0)
      go_loopw [11, 32] (fun so i wr => ∃ j : Nat, j ≤ m ∧ i = .int .i64 j ∧ so = .int .u32 (M j).2 ∧ ∃ p', Hid (Step p w p' wr (M j).1)) (fun _ i _ => m - (intOf i).toNat)
      case atStart => exact ⟨0, Nat.zero_le _, rfl, by rw [hm0.out.2], p, by rw [hm0.out.1]; exact Lib.hid (Step.of_below HG.out hB)⟩
      case round =>
        clear hB d0 hc0
        obtain ⟨j, hj, rfl, rfl, p2, hS⟩ := hrel
        by_cases hjm : j < m
        · have hcj := (kept_cell hS.out.kept hb hnp.out (o := off + 1 + j)).1.trans (hcr.out j hjm)
          have hgj := hgr.out j (by omega)
          have hlen := hgj.len
          have hmj := hm2.out j (by omega)
          have hyT := Lib.hid (hgj.le.there (HR.out.at (i := j) (by omega)))
          have hsj := hsucc.out j hjm
          have hcall := Lib.hid (HC.out wr p2 _ _ _ hS.out.is hgj.wf (by omega) hgj.there hyT.out)
          rw [← hsj, hS.out.b] at hcall
          generalize r.getD j 0 = y at *
          have HSJ := Lib.hid hsj
          clear hsj
          have hgj := Lib.hid hgj
          clear hlen hmj hgr hm2 hsucc
          go_wp2_with (go_at_call 72; refine hcall.out.mono ?_; rintro e w3 ⟨rfl, p3, hS3⟩)
          go_roundw
          case rel => exact ⟨_, _, _, _, _, _, _, _, _, _, _, _, _, _, _, _, _, _, _, _, _, _, ⟨j + 1, by omega, by go_num, rfl, p3, Lib.hid (hS.out.trans hS3)⟩, rfl⟩
          case measure => simp [intOf]; omega
        · obtain rfl : j = m := by omega
          go_wp2
          go_ret2
          exact ⟨rfl, p2, hS.out⟩
set_option maxRecDepth 100000 in
set_option maxHeartbeats 1000000 in
theorem together_xor {T : Gr → Int → Int → Gr × Int} {k : Nat} (hT : OpOk T k) (hc : OpCall 56 T) {w : World} {p : Pl} {G : Gr} (hG : Is w p G) (hW : Wf G) {a : Option Addr} {n cap : Nat} {l : List Int} (hs : Row .u32 w a n l) (hcap : n ≤ cap) (hap : ∀ x, a = some x → ¬ p.has x.block) (hl : AllThere G l) (hm : G.nodes.length + k * n ≤ 199000) (z : Int) :
    Calls Try.prog 54 #[.pointer (some ⟨p.b, 0, none⟩), .int .u32 z, .func (.func 56) #[.pointer (some ⟨p.b, 0, none⟩)] #[], .slice a n cap] w fun e w' => e = .returned (.tuple #[.int .u32 (manyG T z G l).2, .int .i64 0]) ∧ ∃ p', Step p w p' w' (manyG T z G l).1 := by
  have hck := Lib.hid (check_any hG hW (by omega) hs hl (cap := cap))
  have hlen := hs.len
  have HS := Lib.hid hs
  have hlt := hG.lay.lt
  cases l with
  | nil =>
    obtain rfl : n = 0 := by simpa using hlen.symm
    have hdone : Hid (manyG T z G [] = (G, z)) := Lib.hid rfl
    rw [hdone.out]
    have HG := Lib.hid hG
    clear hG hW hs hl HS
    go_enter Try.func54, Try.ntmps54
    go_wp2_with (go_at_call 65; refine hck.out.mono ?_; rintro e w2 ⟨rfl, hB⟩)
    go_ret2
    exact ⟨rfl, p, Step.of_below HG.out hB⟩
  | cons x r =>
    obtain ⟨m, rfl⟩ : ∃ m, n = m + 1 := ⟨r.length, by simpa using hlen.symm⟩
    obtain ⟨c, rfl⟩ : ∃ c, cap = c + 1 := ⟨cap - 1, by omega⟩
    have hmc : m ≤ c := by omega
    have hrl : r.length = m := by simpa using hlen
    have hx : There G x := hl x (by simp)
    have hr : AllThere G r := fun y hy => hl y (by simp [hy])
    have hgr := Lib.hid (many_good hT hW hx hr (by rw [hrl]; have : k * m ≤ k * (m + 1) := Nat.mul_le_mul_left _ (by omega); omega))
    have hkm := Lib.hid hm
    obtain ⟨b, off, rfl, hb, hcell⟩ := hs.at (by omega)
    have hc0 := hcell 0 (by omega)
    have hle := hs.le
    rw [show (x :: r).getD 0 0 = x from rfl, Nat.add_zero] at hc0
    have hcr : Hid (∀ i, i < m → w.cell? ⟨b, off + 1 + i, none⟩ = some (.int .u32 (r.getD i 0))) := Lib.hid (fun i hi => by have := hcell (i + 1) (by omega); rw [show off + (i + 1) = off + 1 + i by omega] at this; simpa using this)
    have hall : Hid (manyN T G x r m = manyG T z G (x :: r)) := Lib.hid (by rw [← hrl]; exact manyN_all T z G x r)
    rw [← hall.out]
    have hsucc := Lib.hid (fun j (hj : j < m) => manyN_succ T G x r j (by omega))
    have HG := Lib.hid hG
    have HC := Lib.hid hc
    have HR := Lib.hid hr
    have hm2 : Hid (∀ j, j ≤ m → G.nodes.length + k * j ≤ 199000) := Lib.hid (fun j hj => by have : k * j ≤ k * (m + 1) := Nat.mul_le_mul_left _ (by omega); omega)
    have hnp : Hid (¬ p.has b) := Lib.hid (hap _ rfl)
    have hm0 : Hid ((manyN T G x r 0).1 = G ∧ (manyN T G x r 0).2 = x) := Lib.hid ⟨rfl, rfl⟩
    clear hG hW hs hl HS hcell hc hT hx hr hlen hm hkm hap hall
    generalize hM : manyN T G x r = M at *
    have hM := Lib.hid hM
    by_cases g0 : c = 0
    · subst g0
      obtain rfl : m = 0 := by omega
      go_enter Try.func54, Try.ntmps54
      go_wp2_with (go_at_call 65; (with_reducible refine hck.out.mono ?_); rintro e w2 ⟨rfl, hB⟩; have d0 := stepc hB hb hc0)
      go_loopw [11, 32] (fun so i wr => ∃ j : Nat, j ≤ 0 ∧ i = .int .i64 j ∧ so = .int .u32 (M j).2 ∧ ∃ p', Hid (Step p w p' wr (M j).1)) (fun _ i _ => 0 - (intOf i).toNat)
      case atStart => exact ⟨0, Nat.zero_le _, rfl, by rw [hm0.out.2], p, by rw [hm0.out.1]; exact Lib.hid (Step.of_below HG.out hB)⟩
      case round =>
        clear hB d0 hc0
        obtain ⟨j, hj, rfl, rfl, p2, hS⟩ := hrel
        by_cases hjm : j < 0
        · exact absurd hjm (by omega)
        · obtain rfl : j = 0 := by omega
          go_wp2
          go_ret2
          exact ⟨rfl, p2, hS.out⟩
    · go_enter Try.func54, Try.ntmps54
      go_wp2_with (go_at_call 65; (with_reducible refine hck.out.mono ?_); rintro e w2 ⟨rfl, hB⟩; have d0 := stepc hB hb hc0)
      go_loopw [11, 32] (fun so i wr => ∃ j : Nat, j ≤ m ∧ i = .int .i64 j ∧ so = .int .u32 (M j).2 ∧ ∃ p', Hid (Step p w p' wr (M j).1)) (fun _ i _ => m - (intOf i).toNat)
      case atStart => exact ⟨0, Nat.zero_le _, rfl, by rw [hm0.out.2], p, by rw [hm0.out.1]; exact Lib.hid (Step.of_below HG.out hB)⟩
      case round =>
        clear hB d0 hc0
        obtain ⟨j, hj, rfl, rfl, p2, hS⟩ := hrel
        by_cases hjm : j < m
        · have hcj := (kept_cell hS.out.kept hb hnp.out (o := off + 1 + j)).1.trans (hcr.out j hjm)
          have hgj := hgr.out j (by omega)
          have hlen := hgj.len
          have hmj := hm2.out j (by omega)
          have hyT := Lib.hid (hgj.le.there (HR.out.at (i := j) (by omega)))
          have hsj := hsucc.out j hjm
          have hcall := Lib.hid (HC.out wr p2 _ _ _ hS.out.is hgj.wf (by omega) hgj.there hyT.out)
          rw [← hsj, hS.out.b] at hcall
          generalize r.getD j 0 = y at *
          have HSJ := Lib.hid hsj
          clear hsj
          have hgj := Lib.hid hgj
          clear hlen hmj hgr hm2 hsucc
          go_wp2_with (go_at_call 56; refine hcall.out.mono ?_; rintro e w3 ⟨rfl, p3, hS3⟩)
          go_roundw
          case rel => exact ⟨_, _, _, _, _, _, _, _, _, _, _, _, _, _, _, _, _, _, _, _, _, _, ⟨j + 1, by omega, by go_num, rfl, p3, Lib.hid (hS.out.trans hS3)⟩, rfl⟩
          case measure => simp [intOf]; omega
        · obtain rfl : j = m := by omega
          go_wp2
          go_ret2
          exact ⟨rfl, p2, hS.out⟩

/-- What a call of many literals comes to. -/
def ManyCall (f : FuncId) (T : Gr → Int → Int → Gr × Int) (z : Int) : Prop := ∀ (w : World) (p : Pl) (G : Gr) (a : Option Addr) (n cap : Nat) (l : List Int), Is w p G → Wf G → Row .u32 w a n l → n ≤ cap → (∀ x, a = some x → ¬ p.has x.block) → AllThere G l → G.nodes.length + 3 * n ≤ 199000 →
    Calls Try.prog f #[.pointer (some ⟨p.b, 0, none⟩), .slice a n cap] w fun e w' => e = .returned (.tuple #[.int .u32 (manyG T z G l).2, .int .i64 0]) ∧ ∃ p', Step p w p' w' (manyG T z G l).1

theorem And_any : ManyCall 31 andG 1 := by
  intro w p G a n cap l hG hW hs hcap hap hl hm
  have ht := Lib.hid (together_and and_ok and_call hG hW hs hcap hap hl (by omega) 1)
  clear hG hW hs hcap hap hl hm
  generalize manyG andG 1 G l = r at *
  go_enter Try.func31, Try.ntmps31
  go_wp2_with (go_at_call 54; (with_reducible refine ht.out.mono ?_); rintro e w2 ⟨rfl, p', hS⟩)
  go_ret2
  exact ⟨rfl, p', hS⟩
theorem Xor_any : ManyCall 32 xorG 0 := by
  intro w p G a n cap l hG hW hs hcap hap hl hm
  have ht := Lib.hid (together_xor xor_ok xor_call hG hW hs hcap hap hl (by omega) 0)
  clear hG hW hs hcap hap hl hm
  generalize manyG xorG 0 G l = r at *
  go_enter Try.func32, Try.ntmps32
  go_wp2_with (go_at_call 54; (with_reducible refine ht.out.mono ?_); rintro e w2 ⟨rfl, p', hS⟩)
  go_ret2
  exact ⟨rfl, p', hS⟩

theorem row3 (w : World) (x y z : Int) (T : Nat) : Row .u32 (w.alloc (.cells #[.int .u32 x, .int .u32 y, .int .u32 z] T)) (some ⟨w.heap.size, 0, none⟩) 3 [x, y, z] := by
  refine ⟨rfl, by omega, .inr ⟨w.heap.size, 0, rfl, by simp, fun i hi => ?_⟩⟩
  match i, hi with
  | 0, _ => simp [go_sem]
  | 1, _ => simp [go_sem]
  | 2, _ => simp [go_sem]
  | i + 3, h => omega
theorem row2 (w : World) (x y : Int) (T : Nat) : Row .u32 (w.alloc (.cells #[.int .u32 x, .int .u32 y] T)) (some ⟨w.heap.size, 0, none⟩) 2 [x, y] := by
  refine ⟨rfl, by omega, .inr ⟨w.heap.size, 0, rfl, by simp, fun i hi => ?_⟩⟩
  match i, hi with
  | 0, _ => simp [go_sem]
  | 1, _ => simp [go_sem]
  | i + 2, h => omega


end Go.Proofs.Ytjdebancpgpebaa
