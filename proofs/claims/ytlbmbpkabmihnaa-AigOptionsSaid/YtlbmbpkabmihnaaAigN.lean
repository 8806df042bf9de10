/-
  The law package's own 'brought': literals brought to nodes that are there.
-/
import Derived.Test.YtlbmbpkabmihnaaAigL
namespace Go.Proofs.Ytlbmbpkabmihnaa
open Go.RowKit Go.Maps

def brV (L : Nat) (x : Int) : Int := x % (2 * (L : Int))
def broughtL (G : Gr) (zs : List Int) : List Int := (zs.take 8).map (brV G.nodes.length)
theorem brV_there {G : Gr} (hW : Wf G) (hm : G.nodes.length ≤ 200000) (x : Int) : There G (brV G.nodes.length x) := by
  have h0 := hW.pos
  have h1 := Int.emod_nonneg x (b := 2 * (G.nodes.length : Int)) (by omega)
  have h2 := Int.emod_lt_of_pos x (b := 2 * (G.nodes.length : Int)) (by omega)
  unfold brV
  exact ⟨⟨h1, by omega⟩, by omega⟩
theorem brought_all {G : Gr} (hW : Wf G) (hm : G.nodes.length ≤ 200000) (zs : List Int) : AllThere G (broughtL G zs) := by
  intro x hx
  obtain ⟨y, -, rfl⟩ := List.mem_map.1 hx
  exact brV_there hW hm y
theorem info_lit : (Try.prog.info? 42).map (fun i => (i.zero, i.size, i.bytes)) = some (some (.int .u32 0), 1, 4) := by kernel_rfl

set_option maxHeartbeats 1000000 in
theorem brought_any {w : World} {p : Pl} {G : Gr} (hG : Is w p G) (hW : Wf G) (hm : G.nodes.length ≤ 200000) {a : Option Addr} {n cap : Nat} {zs : List Int} (hs : Row .u32 w a n zs) (hcap : n ≤ cap) (hz : ∀ i, IsLit (zs.getD i 0)) :
    Calls Try.prog 10 #[.pointer (some ⟨p.b, 0, none⟩), .slice a n cap] w fun e w' => ∃ v, e = .returned v ∧ w'.ownsRow w.heap.size 42 1 v (min n 8) ((broughtL G zs).map (Value.int .u32)) ∧ Below w.heap.size w w' := by
  have HG := Lib.hid hG
  have hno := Lib.hid (fun (w' : World) (hb : Below w.heap.size w w') => nodes_any (hG.lay.below hb) hW.pos)
  have h0 := hW.pos
  have hlen := hs.len
  have hle := hs.le
  obtain ⟨i0, hi, hz0, hz1, hz2⟩ := info_parts info_lit
  obtain ⟨m, hmm, hm8, hmn⟩ : ∃ m, m = min n 8 ∧ m ≤ 8 ∧ m ≤ n := ⟨min n 8, rfl, by omega, by omega⟩
  have HS := Lib.hid (hs.take m hmn)
  have hall : Hid (broughtL G zs = (zs.take m).map (brV G.nodes.length)) := Lib.hid (by
    unfold broughtL
    by_cases h8 : n ≤ 8
    · rw [List.take_of_length_le (by omega), List.take_of_length_le (by omega)]
    · rw [show m = 8 by omega])
  have hzm : Hid (∀ i, IsLit ((zs.take m).getD i 0)) := Lib.hid (fun i => by
    by_cases hi : i < m
    · have : (zs.take m).getD i 0 = zs.getD i 0 := by simp [List.getD, List.getElem?_take, hi]
      rw [this]; exact hz i
    · have : (zs.take m).getD i 0 = 0 := by simp [List.getD, List.getElem?_take, hi]
      rw [this]; unfold IsLit; omega)
  have hzl : Hid ((zs.take m).length = m) := Lib.hid (by simp; omega)
  rw [← hmm, hall.out]
  have HMM := Lib.hid hmm
  clear hmm
  generalize zs.take m = ys at *
  generalize G.nodes.length = L at *
  clear hG hW hs hz hall hlen
  go_enter Try.func10, Try.ntmps10
  go_upto_region 2 with fail
  go_cut [12, 13, 14] (fun s t u wx => s = .slice a m cap ∧ t = .int .i64 m ∧ u = .int .i64 0 ∧ wx = w)
  case first =>
    by_cases h8 : n ≤ 8
    · have e : m = n := by have := HMM.out; omega
      subst e
      go_wp2_with fail
      all_goals (go_meet; exact ⟨rfl, rfl, rfl, rfl⟩)
    · have e : m = 8 := by have := HMM.out; omega
      subst e
      have h9 : 8 < n := by omega
      go_wp2_with fail
      all_goals (go_meet; exact ⟨rfl, rfl, rfl, rfl⟩)
  case rest =>
    obtain ⟨rfl, rfl, rfl, rfl⟩ := hcut
    obtain ⟨w, rfl⟩ : ∃ w : World, w = wc := ⟨_, rfl⟩
    go_wp2_with fail
    go_loopw [5, 14] (fun v i wr => ∃ j : Nat, j ≤ m ∧ i = .int .i64 j ∧ Hid (wr.ownsRow w.heap.size 42 1 v j (((ys.take j).map (brV L)).map (Value.int .u32))) ∧ Below w.heap.size w wr) (fun _ i _ => m - (intOf i).toNat)
    case atStart => exact ⟨0, Nat.zero_le _, rfl, Lib.hid (own_nil _ _ _), Below.refl _ _⟩
    case round =>
      obtain ⟨j, hj, rfl, ho, hB⟩ := hrel
      by_cases hjm : j < m
      · obtain ⟨b, off, rfl, hb, hc⟩ := HS.out.at (by omega)
        have hcj := stepc hB hb (hc j hjm)
        obtain ⟨x0, x1⟩ := hzm.out j
        have hnode := Lib.hid (hno.out wr hB)
        have hwz := hB.size
        have hnx : Hid (((ys.take (j + 1)).map (brV L)).map (Value.int .u32) = ((ys.take j).map (brV L)).map (Value.int .u32) ++ [.int .u32 (brV L (ys.getD j 0))]) := Lib.hid (by
          rw [List.take_add_one, List.map_append, List.map_append]
          have : ys[j]? = some (ys.getD j 0) := by have := hzl.out; simp [List.getD, show j < ys.length by omega]
          rw [this]; rfl)
        generalize ys.getD j 0 = x at *
        clear hc
        go_wp2_with (first
          | (go_at_call 17; (with_reducible refine hnode.out.mono ?_); rintro e w2 ⟨rfl, rfl⟩)
          | (at_builtin; refine wpList_append_lies _ rfl _ _ 30 rfl w.heap.size 42 i0 (.int .u32 0) 1 4 Try.underlying30 hi hz0 hz1 hz2 rfl (by decide) u5 j _ rfl (ho.out.alloc _) ⟨wr.heap.size, 0, none⟩ 1 1 [.int .u32 (x % (2 * (L : Int)))] rfl rfl (cell_one_new _ _ _) (by simp [Value.oneCell']) (by decide) (by unfold maxLen; omega) (by omega) (by simp; omega) _ rfl ?_; intro g cap1 w1 hown1 hgrow1 hat1 hlt1))
        go_roundw
        case rel =>
          refine ⟨j + 1, by omega, by go_num, ?_, ?_⟩
          · rw [hnx.out]; exact Lib.hid hown1
          · exact (hB.alloc hwz _).grown hgrow1 (by simp; omega) (fun k hk => own_ge ho.out k hk)
        case measure => simp [intOf]; omega
      · obtain rfl : j = m := by omega
        have hfull : Hid (ys.take j = ys) := Lib.hid (List.take_of_length_le (by have := hzl.out; omega))
        go_wp2
        obtain ⟨a5, c5, rfl⟩ := own_slice ho.out
        go_ret
        exact ⟨_, rfl, by have := ho.out; rw [hfull.out] at this; exact this, hB⟩
end Go.Proofs.Ytlbmbpkabmihnaa
