/-
  Copy: what it holds along the way; its small functions.
-/
import Derived.Test.YtmljpbbnllfgbaaConeT
import Derived.Test.YtmljpbbnllfgbaaCpy
import Derived.Test.YtmljpbbnllfgbaaLitO
namespace Go.Proofs.Ytmljpbbnllfgbaa
open Go.RowKit Go.Maps Num
set_option maxRecDepth 100000

def mayV (T : Gr) (many : Nat) (by_ : List Int) : Int := if by_.length = many then chkV T by_ else 1
theorem mayStand_any {w : World} {p pf : Pl} {T G : Gr} (hT : Is w p T) (hWT : Wf T) (hmT : T.nodes.length ≤ 200000) (hI : Is w pf G) (hW : Wf G) (hm : G.nodes.length ≤ 200000) {a : Option Addr} {n c : Nat} {l : List Int} (hs : Row .u32 w a n l) (hl : ∀ x ∈ l, IsLit x) :
    Calls Try.prog 41 #[.pointer (some ⟨p.b, 0, none⟩), .pointer (some ⟨pf.b, 0, none⟩), .slice a n c] w fun e w' => e = .returned (.int .i64 (mayV T G.inputs.length l)) ∧ Below w.heap.size w w' := by
  have hn1 := Lib.hid (nodes_any hT.lay hWT.pos)
  have hn2 := Lib.hid (nodes_any hI.lay hW.pos)
  have hin := Lib.hid (InputsOf_any hI hW hm)
  have hck := Lib.hid (fun w2 (hb : Below w.heap.size w w2) => ccheck_any (c := c) (hT.below hb) hWT hmT (hs.step hb) hl)
  have h1 : ((T.nodes.length : Int) == 0) = false := beqf (by have := hWT.pos; omega)
  have h2 : ((G.nodes.length : Int) == 0) = false := beqf (by have := hW.pos; omega)
  have hlen := hs.len
  have hmv : Hid (mayV T G.inputs.length l = if n = G.inputs.length then chkV T l else 1) := Lib.hid (by unfold mayV; rw [hlen])
  generalize T.nodes.length = tn at *
  generalize G.nodes.length = fn at *
  generalize G.inputs.length = il at *
  clear hT hWT hI hW hs hl hlen
  by_cases hnl : n = il
  · subst hnl
    rw [if_pos rfl] at hmv
    have hne := bnef (a := (n : Int)) (b := n) rfl
    go_enter Try.func41, Try.ntmps41
    go_wp2_with (first
      | (go_at_call 8; (with_reducible refine hn1.out.mono ?_); rintro e w2 ⟨rfl, rfl⟩)
      | (go_at_call 8; (with_reducible refine hn2.out.mono ?_); rintro e w2 ⟨rfl, rfl⟩)
      | (go_at_call 11; (with_reducible refine hin.out.mono ?_); rintro e w2 ⟨a2, c2, rfl, -, hB⟩; have hB := Lib.hid hB; have hck2 := Lib.hid (hck.out _ hB.out))
      | (go_at_call 48; (with_reducible refine hck2.out.mono ?_); rintro e w3 ⟨rfl, hB3⟩; have hB3 := Lib.hid hB3))
    go_ret
    exact ⟨by rw [hmv.out]; rfl, nextw hB.out hB3.out⟩
  · rw [if_neg hnl] at hmv
    have hne := bnet (a := (n : Int)) (b := il) (by omega)
    go_enter Try.func41, Try.ntmps41
    go_wp2_with (first
      | (go_at_call 8; (with_reducible refine hn1.out.mono ?_); rintro e w2 ⟨rfl, rfl⟩)
      | (go_at_call 8; (with_reducible refine hn2.out.mono ?_); rintro e w2 ⟨rfl, rfl⟩)
      | (go_at_call 11; (with_reducible refine hin.out.mono ?_); rintro e w2 ⟨a2, c2, rfl, -, hB⟩; have hB := Lib.hid hB))
    go_ret
    exact ⟨by rw [hmv.out]; rfl, hB.out⟩

set_option maxHeartbeats 1000000 in
theorem copy1_any (q bb off bn bcap : Nat) (bys : List Int) (l : Int) (hl : IsLit l) (hbys : ∀ i, IsLit (bys.getD i 0)) (hin : l / 2 < bn) (w : World) (hq : q < w.heap.size) (hqc : w.cell? ⟨q, 0, none⟩ = some (.slice (some ⟨bb, off, none⟩) bn bcap))
    (hb : bb < w.heap.size) (hc : ∀ i, i < bn → w.cell? ⟨bb, off + i, none⟩ = some (.int .u32 (bys.getD i 0))) :
    Calls Try.prog 42 #[.int .u32 l, .pointer (some ⟨q, 0, none⟩)] w fun e w' => e = .returned (.int .u32 (overV bys l)) ∧ Below w.heap.size w w' := by
  obtain ⟨k, hk⟩ := Int.eq_ofNat_of_zero_le (show 0 ≤ l / 2 by have := hl.1; omega)
  have hck := hc k (by omega)
  have hnode := Lib.hid (fun w => Calls.low (node_any l hl w))
  have hturn := Lib.hid (fun w => Calls.low (turned_any l hl w))
  have hif := Lib.hid (fun w => Calls.low (if_any (bys.getD k 0) (turnV l) (hbys k) w))
  have hv : Hid (overV bys l = ifV (bys.getD k 0) (turnV l)) := by show _ = _; unfold overV; rw [hk]; rfl
  have hkn : k < bn := by omega
  rw [hk] at hnode
  generalize bys.getD k 0 = y at *
  generalize turnV l = T at *
  clear hc hbys hin hl hk
  go_enter Try.func42, Try.ntmps42
  go_wp2
  have hqc2 := fun z => stepc (ext_below w z) hq hqc
  have hck2 := fun z => stepc (ext_below w z) hb hck
  (refine wp_region_ext (by kernel_rfl) (by kernel_rfl) ?_; (repeat (go_big_quiet_step ((first | (go_at_call 22; exact Calls.ext_of (hnode.out _)) | (go_at_call 44; exact Calls.ext_of (hturn.out _)) | (go_at_call 43; exact Calls.ext_of (hif.out _)))))); refine wpQuiet_nil ?_; intro w2 hw'; have hb2 := below_of_ext hw'; clear hw')
  clear hqc2 hck2 hqc hck
  go_wp2
  go_ret
  exact ⟨ret_int hv.out.symm, hb2⟩
end Go.Proofs.Ytmljpbbnllfgbaa
