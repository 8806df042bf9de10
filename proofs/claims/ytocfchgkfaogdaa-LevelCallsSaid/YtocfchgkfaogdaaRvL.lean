/-
  The document's own answers (orreryref07): Layers.
-/
import Derived.Test.YtocfchgkfaogdaaRvD
namespace Go.Proofs.Ytocfchgkfaogdaa
open Go.RowKit Go.Maps
set_option maxRecDepth 100000

set_option maxHeartbeats 8000000 in
theorem rLayers_any {w : World} {a : Option Addr} {n : Nat} {d : List Int} (h : Row .i64 w a n d) (hn : n ≤ 1000) (hd : ∀ x ∈ d, x ≤ 1000) (c : Nat) :
    Calls Try.prog 22 #[.slice a n c] w fun e w' => ∃ (va : Option Addr) (ca : Nat), e = .returned (.slice va (layL d).length ca) ∧ RR w' va (layL d).length (layL d) ∧ Below w.heap.size w w' := by
  have hl := h.len
  have H := Lib.hid h
  have HD := Lib.hid hd
  obtain ⟨i0, hi, hz0, hz1, hz2⟩ := info_parts info_int
  obtain ⟨j0, ji, jz0, jz1, jz2⟩ := info_parts info_row
  have hgl : grt d ≤ 1000 := grt_le d (-1) 1000 (by omega) hd
  have hgg : -1 ≤ grt d := (grt_ge d (-1)).1
  clear h hd
  go_enter Try.func22, Try.ntmps22
  go_wp2
  go_loopw [3, 4] (fun s t wr => wr = w ∧ ∃ (j : Nat) (m : Int), s = .int .i64 m ∧ t = .int .i64 j ∧ j ≤ n ∧ Hid (m = (d.take j).foldl max (-1)) ∧ -1 ≤ m ∧ m ≤ 1000) (fun _ t _ => n - (RowKit.intOf t).toNat)
  case atStart => exact ⟨rfl, 0, -1, rfl, rfl, by omega, Lib.hid (by simp), by omega, by omega⟩
  case round =>
    obtain ⟨rfl, j, m, rfl, rfl, hj, hm, hm1, hm2⟩ := hrel
    by_cases hlt : j < n
    · obtain ⟨b, off, rfl, hb, hcell⟩ := H.out.at (by omega)
      have c1 := hcell j hlt
      have hjn : (j : Int) < n := by omega
      have hjl : j < d.length := by omega
      have hx := HD.out _ (List.getElem_mem hjl)
      have e1 : d.getD j 0 = d[j] := by simp [List.getD, hjl]
      have hf := fold_take max (-1) d hjl
      rw [e1] at c1
      generalize d[j] = x at *
      have hnx := Lib.hid (show max m x = (d.take (j + 1)).foldl max (-1) from by rw [hf, hm.out])
      clear hcell e1 hf hm
      by_cases hmx : m < x
      · have e2 : max m x = x := by omega
        rw [e2] at hnx
        clear e2
        go_wp2
        exact ⟨⟨trivial, j + 1, x, rfl, by go_num, by omega, hnx, by omega, by omega⟩, by simp [RowKit.intOf]; omega⟩
      · have e2 : max m x = m := by omega
        rw [e2] at hnx
        clear e2
        go_wp2
        exact ⟨⟨trivial, j + 1, m, rfl, by go_num, by omega, hnx, by omega, by omega⟩, by simp [RowKit.intOf]; omega⟩
    · obtain rfl : j = n := by omega
      have hmg : m = grt d := by
        have := hm.out
        rw [← hl, List.take_length] at this
        exact this
      clear hm
      obtain ⟨G, hG⟩ : ∃ G : Nat, (grt d + 1).toNat = G := ⟨_, rfl⟩
      have hLL0 : layL d = (List.range G).map (fun v => iz (lay d d.length v)) := by unfold layL; rw [hG]
      have hGm : m + 1 = (G : Int) := by omega
      have hGl : G ≤ 1001 := by omega
      have hLL := Lib.hid hLL0
      clear hgl hgg hG hmg hLL0
      obtain ⟨wb, rfl⟩ : ∃ wb : World, wb = wr := ⟨_, rfl⟩
      go_wp2
      go_loopw [5, 6, 7, 8] (fun s t _ _ wr => ∃ (v : Nat) (oa : Option Addr) (oc : Nat) (V : Nat → Value) (U : Nat → List Int), s = .slice oa v oc ∧ t = .int .i64 v ∧ v ≤ G ∧ Hid (RC wb wr (.slice oa v oc) v V U) ∧ Hid (∀ k, k < v → U k = iz (lay d j k))) (fun _ t _ _ _ => G - (RowKit.intOf t).toNat)
      case atStart => exact ⟨0, none, 0, fun _ => .nilIface, fun _ => [], rfl, rfl, by omega, Lib.hid (RC.nil wb _ _), Lib.hid (fun k hk => by omega)⟩
      case round =>
        obtain ⟨v, oa, oc, V, U, rfl, rfl, hvG, hR, hU⟩ := hrel
        by_cases hv : v < G
        · have hvm : (v : Int) ≤ m := by omega
          obtain ⟨wa, rfl⟩ : ∃ wa : World, wa = wr := ⟨_, rfl⟩
          go_wp2
          go_loopw [7, 8] (fun s t wq => ∃ (p y : Nat) (la : Option Addr) (lc : Nat) (L : List Nat), s = .slice la y lc ∧ t = .int .i64 p ∧ p ≤ j ∧ L.length = y ∧ y ≤ p ∧ Hid (Below wa.heap.size wa wq) ∧ Hid (wq.ownsRow wa.heap.size 3 1 (.slice la y lc) y (ints (iz L))) ∧ Hid (L = lay d p v)) (fun _ t _ => j - (RowKit.intOf t).toNat)
          case atStart => exact ⟨0, 0, none, 0, [], rfl, rfl, by omega, rfl, by omega, Lib.hid (Below.refl _ _), Lib.hid (own_nil _ _ _), Lib.hid (by simp [lay])⟩
          case round =>
            obtain ⟨p, y, la, lc, L, rfl, rfl, hp, hLy, hyp, hB1, hown, hL⟩ := hrel
            have hlz := hB1.out.size
            by_cases hpj : p < j
            · obtain ⟨b, off, rfl, hb, hcell⟩ := H.out.at (by omega)
              have c1 := stepc (nextw hR.out.low hB1.out) hb (hcell p hpj)
              have hpi : (p : Int) < j := by omega
              have hls := Lib.hid (lay_succ d p v)
              generalize d.getD p 0 = x at *
              clear hcell
              by_cases hxv : x = (v : Int)
              · subst hxv
                have hL2 : Hid (L ++ [p] = lay d (p + 1) v) := Lib.hid (by rw [hls.out, if_pos rfl, hL.out])
                clear hls hL
                have hvv : ((v : Int) == (v : Int)) = true := by simp
                go_wp2_with (at_builtin; refine wpList_append_lies _ rfl _ _ 23 rfl wa.heap.size 3 i0 (.int .i64 0) 1 8 Try.underlying23 hi hz0 hz1 hz2 rfl (by decide) (.slice la y lc) y _ rfl (hown.out.alloc _) ⟨_, 0, none⟩ 1 1 [.int .i64 (p : Int)] rfl rfl (news1 _ _ _) (by simp [Value.oneCell']) (by decide) (by unfold maxLen; omega) (by omega) (by simp; omega) _ rfl ?_; intro g1 cap1 w8 hown8 hgrow8 hat8 hlt8)
                exact ⟨⟨p + 1, y + 1, some ⟨g1, 0, none⟩, cap1, L ++ [p], rfl, by go_num, by omega, by simp [hLy], by omega, Lib.hid ((hB1.out.alloc hlz _).grown hgrow8 (by simp; omega) (fun k hk => own_ge hown.out k hk)), Lib.hid (by rw [iz_snoc]; exact hown8), hL2⟩, by simp [RowKit.intOf]; omega⟩
              · have hL2 : Hid (L = lay d (p + 1) v) := Lib.hid (by rw [hls.out, if_neg hxv, hL.out])
                have hvv : (x == (v : Int)) = false := by simpa using hxv
                clear hls hL
                go_wp2
                exact ⟨⟨p + 1, y, la, lc, L, rfl, by go_num, by omega, hLy, by omega, hB1, hown, hL2⟩, by simp [RowKit.intOf]; omega⟩
            · obtain rfl : p = j := by omega
              have hRq := Lib.hid (hR.out.below hB1.out)
              have happ := Lib.hid (fun w2 w1 g1 cap1 hb h1 h2 => hRq.out.app (v := .slice la y lc) (l := iz L) (by rw [iz_len, hLy]; exact own_base hown.out hR.out.low.size) (fun k hk b e1 e2 => by
                have h1 := own_ge hown.out b e1
                have h2 := own_blt (hR.out.ur k hk) e2
                omega) w2 w1 g1 cap1 hb h1 h2)
              have hU2 : Hid (∀ k, k < v + 1 → upd U v (iz L) k = iz (lay d p k)) := Lib.hid (fun k hk => by
                by_cases e : k = v
                · subst e; rw [upd_same, hL.out]
                · rw [upd_other _ _ e]; exact hU.out k (by omega))
              have hub := Lib.hid hRq.out.ub
              have hls := hRq.out.low.size
              clear hL hown hB1 hR hU
              go_wp2_with (at_builtin; refine wpList_append_lies _ rfl _ _ 22 rfl wb.heap.size 23 j0 (.slice none 0 0) 1 24 Try.underlying22 ji jz0 jz1 jz2 rfl (by decide) (.slice oa v oc) v _ rfl (hub.out.alloc _) ⟨_, 0, none⟩ 1 1 [.slice la y lc] rfl rfl (news1 _ _ _) (by simp [Value.oneCell']) (by decide) (by unfold maxLen; omega) (by omega) (by simp; omega) _ rfl ?_; intro g1 cap1 w8 hown8 hgrow8 hat8 hlt8)
              exact ⟨⟨v + 1, some ⟨g1, 0, none⟩, cap1, _, _, rfl, by go_num, by omega, Lib.hid (happ.out _ _ _ _ ((Below.refl _ _).alloc (Nat.le_refl _) _) hown8 hgrow8), hU2⟩, by simp [RowKit.intOf]; omega⟩
        · obtain rfl : v = G := by omega
          have hrr := hR.out.rr (by omega) (fun k hk => by rw [hU.out k hk, iz_len]; have := lay_len d j k; omega) rfl
          have e : (List.range v).map U = layL d := by
            rw [hLL.out, hl]
            exact List.map_congr_left (fun k hk => hU.out k (by simpa using hk))
          rw [e] at hrr
          have hrr2 := Lib.hid hrr
          have hlen : Hid ((layL d).length = v) := Lib.hid hrr.len
          have hlow := Lib.hid hR.out.low
          have hvm : ¬ (v : Int) ≤ m := by omega
          clear hR hU hrr e hLL
          go_wp2
          go_ret
          rw [hlen.out]
          exact ⟨oa, ⟨oc, rfl⟩, hrr2.out, hlow.out⟩
end Go.Proofs.Ytocfchgkfaogdaa
