/-
  AigMeans: the walk.
-/
import Derived.Test.YtlbmbpkabmihnaaAigV
namespace Go.Proofs.Ytlbmbpkabmihnaa
open Go.RowKit Go.Maps

theorem grown_at (F H raw : Bool) {w : World} {a : Option Addr} {n cap : Nat} {l : List ActV} (hA : Acts w a n l) {G : Gr} {T : List Int} (hM : grownG F H raw l (min n 40) = (G, T)) :
    Calls Try.prog 6 #[.agg #[.bool F, .bool H], .slice a n cap, .bool raw] w fun e w' => ∃ p B a2 c2, e = .returned (.tuple #[.pointer (some ⟨B, 0, none⟩), .slice a2 T.length c2, .bool true]) ∧ AtG w B w' p G ∧ Mine w w' 42 (.slice a2 T.length c2) T.length (T.map (Value.int .u32)) := by
  have hk := grownG_kind F H raw l (min n 40) (by have := hA.len; omega) (by omega)
  have := grown_any F H raw (cap := cap) hA
  rw [hM] at this hk
  exact this.mono fun e w' ⟨p, v, he, hR⟩ => by
    obtain ⟨a2, c2, rfl⟩ := own_slice hR.told
    exact ⟨p, p.b, a2, c2, he, hR.atG hk (by omega), ⟨hR.told, by decide, by decide, by decide⟩⟩

theorem below_new1 {w w4 : World} {o : Obj} (hg : (w.alloc o).grownBy w4 none) : Below w.heap.size w w4 :=
  ((Below.refl _ _).alloc (Nat.le_refl _) _).grown hg (by simp) (fun _ h => by cases h)
theorem words_row {ws : List Int} (h : Words ws) (m : Nat) : Words (Bits.row m (fun k => ws.getD k 0)) := by
  intro i
  by_cases hi : i < m
  · rw [Bits.row_getD _ _ _ hi]; exact h i
  · rw [List.getD, List.getElem?_eq_none (by rw [Bits.row_length]; omega)]; simp
theorem foldW_succ (o : BinOp) (z : Int) (ws l : List Int) (j : Nat) (h : j < l.length) : foldW o z ws (l.take (j + 1)) = bits o .u64 (foldW o z ws (l.take j)) (wordV (l.getD j 0) ws) := by
  unfold foldW
  rw [List.take_add_one, List.foldl_append]
  simp [List.getD, h]
theorem word_as {l : Int} {a : Option Addr} {n cap : Nat} {zs : List Int} {V : Int} (hv : wordV l zs = V) (h : IsLit l) (w : World) (hs : Row .u64 w a n zs) (hz : Words zs) :
    Calls Try.prog 16 #[.int .u32 l, .slice a n cap] w fun e w' => e = .returned (.int .u64 V) ∧ w = w' := by
  subst hv; exact word_any l a n cap zs h w hs hz
structure Start (w w0 : World) (x y : Value) : Prop where
  below : Below w.heap.size w w0
  lt : w.heap.size + 1 < w0.heap.size
  x : w0.cell? ⟨w.heap.size + 1, 0, none⟩ = some x
  y : w0.cell? ⟨w.heap.size + 1, 1, none⟩ = some y
theorem start_means (w : World) (F H x y : Value) (T1 T2 : Nat) : Start w ((w.alloc (.cells #[F, H] T1)).alloc (.cells #[x, y] T2)) x y :=
  ⟨((Below.refl _ w).alloc (Nat.le_refl _) _).alloc (by simp) _, by simp, by simp [go_sem], by simp [go_sem]⟩

set_option maxHeartbeats 2000000 in
set_option maxRecDepth 100000 in
theorem means_any (F H : Bool) {w : World} {a : Option Addr} {n cap : Nat} {l : List ActV} (hA : Acts w a n l) {xa : Option Addr} {xn xc : Nat} {xs : List Int} (hX : Row .u32 w xa xn xs) (hXc : xn ≤ xc) (hXl : ∀ k, IsLit (xs.getD k 0)) {wa : Option Addr} {wn wc : Nat} {ws : List Int} (hW : Row .u64 w wa wn ws) (hWs : Words ws) :
    Calls Try.prog 3 #[.agg #[.bool F, .bool H], .slice a n cap, .agg #[.slice xa xn xc, .slice wa wn wc]] w fun e w' => e = .returned (.bool true) ∧ Below w.heap.size w w' := by
  have hk := grownG_kind F H true l (min n 40) (by have := hA.len; omega) (by omega)
  obtain ⟨⟨G, T⟩, hM⟩ : ∃ M, grownG F H true l (min n 40) = M := ⟨_, rfl⟩
  rw [hM] at hk
  have hT : T.length ≤ 40 := Nat.le_trans hk.told (by omega)
  have hG9 : G.nodes.length ≤ 1000 := Nat.le_trans hk.len (by omega)
  have HM := Lib.hid hM
  have hxle := hX.le
  have hwle := hW.le
  have hwlen := Lib.hid hW.len
  have HX := Lib.hid hX
  have HW := Lib.hid hW
  have HA := Lib.hid hA
  have HXl := Lib.hid hXl
  have HWs := Lib.hid hWs
  have hgr := Lib.hid ((grown_at F H true (cap := cap) (hA.step (((Below.refl _ w).alloc (Nat.le_refl _) (.cells #[.bool F, .bool H] 23)).alloc (by simp) (.cells #[.slice xa xn xc, .slice wa wn wc] 28))) hM).mono (R' := fun e w2 => ∃ w0 p B a2 c2, e = .returned (.tuple #[.pointer (some ⟨B, 0, none⟩), .slice a2 T.length c2, .bool true]) ∧ Hid (Start w w0 (.slice xa xn xc) (.slice wa wn wc)) ∧ AtG w0 B w2 p G ∧ Mine w0 w2 42 (.slice a2 T.length c2) T.length (T.map (Value.int .u32)))
    fun e w2 ⟨p, B, a2, c2, he, h1, h2⟩ => ⟨_, p, B, a2, c2, he, Lib.hid (start_means _ _ _ _ _ _ _), h1, h2⟩)
  have hwk := Lib.hid (fun w => wakes_any w)
  clear hM hk hX hW hA hXl hWs
  go_enter Try.func3, Try.ntmps3
  go_wp2_with (first
    | (go_at_call 6; (with_reducible refine hgr.out.mono ?_); rintro e w2 ⟨w0, p, B, a2, c2, rfl, hST, hA2, hM2⟩; have hb2 := Lib.hid (hwk.out w2); clear hM2)
    | (go_at_call 7; (with_reducible refine hb2.out.mono ?_); rintro e w3 ⟨rfl, hB3⟩; have hA3 := Lib.hid (hA2.step hB3); have hin := Lib.hid (hA3.out.inputs); clear hA2 hB3 hb2)
    | (go_at_call 8; (with_reducible refine hin.out.mono ?_); rintro e w4 ⟨a4, c4, rfl, hB4⟩; have hA4 := Lib.hid (hA3.out.step hB4); clear hA3 hB4 hin))
  clear hgr
  obtain ⟨i0, hi, hz0, hz1, hz2⟩ := info_parts info_u64
  have hm9 : G.inputs.length ≤ 1000 := by have := hA4.out.wf.cnt; omega
  generalize hmm : G.inputs.length = m at *
  have hmm := Lib.hid hmm
  obtain ⟨-, hlt0, z0, z1⟩ := hST.out
  go_loopw [10, 55] (fun v i wr => ∃ j : Nat, j ≤ m ∧ i = .int .i64 j ∧ Hid (Mine w0 wr 36 v j ((Bits.row j (fun k => ws.getD k 0)).map (Value.int .u64))) ∧ Hid (AtG w0 B wr p G)) (fun _ i _ => m - (intOf i).toNat)
  case atStart => exact ⟨0, Nat.zero_le _, rfl, Lib.hid ⟨own_nil _ _ _, by decide, by decide, by decide⟩, hA4⟩
  case round =>
    clear hA4
    obtain ⟨j, hj, rfl, ho, hR⟩ := hrel
    by_cases hjm : j < m
    · have x0 := stepc hR.out.below hlt0 z0
      have x1 := stepc hR.out.below hlt0 z1
      have hnext := Lib.hid (Bits.row_succ j (fun k => ws.getD k 0))
      have hsz0 := hR.out.below.size
      clear z0 z1
      by_cases hjn : j < wn
      · obtain ⟨b, off, rfl, hb, hc⟩ := HW.out.at (by omega)
        have hcj := stepc ((hST.out.below.trans (hR.out.below.mono hST.out.below.size))) hb (hc j hjn)
        clear hc
        generalize ws.getD j 0 = W at *
        go_wp2_with (at_builtin; refine wpList_append_lies _ rfl _ _ 26 rfl w0.heap.size 36 i0 (.int .u64 0) 1 8 Try.underlying26 hi hz0 hz1 hz2 rfl (by decide) u10 j _ rfl (ho.out.own.alloc _) ⟨_, 0, none⟩ 1 1 [.int .u64 _] rfl rfl (cell_one_new _ _ _) (by simp [Value.oneCell']) (by decide) (by unfold maxLen; omega) (by omega) (by simp; omega) _ rfl ?_; intro g cap1 w7 hown1 hgrow1 hat1 hlt1)
        go_roundw
        case rel => exact ⟨j + 1, by omega, by go_num, by rw [hnext.out, List.map_append]; exact Lib.hid ⟨hown1, by decide, by decide, by decide⟩, Lib.hid ((hR.out.step ((Below.refl _ _).alloc (Nat.le_refl _) _)).grown (ho.out.step ((Below.refl _ _).alloc (Nat.le_refl _) _)) hgrow1)⟩
        case measure => simp [intOf]; omega
      · have hz : ws.getD j 0 = 0 := by have := hwlen.out; simp [List.getD, List.getElem?_eq_none (show ws.length ≤ j by omega)]
        rw [hz] at hnext
        go_wp2_with (at_builtin; refine wpList_append_lies _ rfl _ _ 26 rfl w0.heap.size 36 i0 (.int .u64 0) 1 8 Try.underlying26 hi hz0 hz1 hz2 rfl (by decide) u10 j _ rfl (ho.out.own.alloc _) ⟨_, 0, none⟩ 1 1 [.int .u64 _] rfl rfl (cell_one_new _ _ _) (by simp [Value.oneCell']) (by decide) (by unfold maxLen; omega) (by omega) (by simp; omega) _ rfl ?_; intro g cap1 w7 hown1 hgrow1 hat1 hlt1)
        go_roundw
        case rel => exact ⟨j + 1, by omega, by go_num, by rw [hnext.out, List.map_append]; exact Lib.hid ⟨hown1, by decide, by decide, by decide⟩, Lib.hid ((hR.out.step ((Below.refl _ _).alloc (Nat.le_refl _) _)).grown (ho.out.step ((Below.refl _ _).alloc (Nat.le_refl _) _)) hgrow1)⟩
        case measure => simp [intOf]; omega
    · obtain rfl : j = m := by omega
      obtain ⟨a10, c10, rfl⟩ := own_slice ho.out.own
      have hmm := hmm.out
      subst hmm
      have hIN := Lib.hid (words_row HWs.out G.inputs.length)
      have hINl := Lib.hid (Bits.row_length G.inputs.length (fun k => ws.getD k 0))
      generalize Bits.row G.inputs.length (fun k => ws.getD k 0) = IN at *
      have hev := Lib.hid (hR.out.eval (cap := c10) (ho.out.row (by omega)).1 hIN.out)
      have hbr := Lib.hid (fun w' (h : AtG w0 B w' p G) => h.brought (zs := xs) ((HX.out.step hST.out.below).step h.below) hXc HXl.out)
      go_upto_region 15 with (first
        | (go_at_call 9; (with_reducible refine hev.out.mono ?_); rintro e w5 ⟨E0, a13, rfl, hM5, hE0, hV0, hB5⟩; have hA5 := Lib.hid (hR.out.step hB5); have hIN5 := Lib.hid (ho.out.step hB5); have hb5 := Lib.hid (hbr.out _ hA5.out); have x0 := stepc hA5.out.below hlt0 z0; clear hB5 hev)
        | (go_at_call 10; (with_reducible refine hb5.out.mono ?_); rintro e w6 ⟨a15, c15, rfl, hM6, hB6⟩; have hA6 := Lib.hid (hA5.out.step hB6); have hIN6 := Lib.hid (hIN5.out.step hB6); have hE6 := Lib.hid (hM5.step hB6); clear hb5 hM5 hIN5 hA5 hB6 x0))
      obtain ⟨q0, hq, qz0, qz1, qz2⟩ := info_parts info_u32
      have hCl := Lib.hid (show (broughtL G (xs.take 5 ++ [0, 0, 0])).length = min xn 5 + 3 by unfold broughtL; have := HX.out.len; simp; omega)
      have HX6 := Lib.hid ((HX.out.step hST.out.below).step hA6.out.below)
      have x0 := stepc hA6.out.below hlt0 z0
      have hlits : Hid (∀ m, ∀ i, IsLit ((xs.take m ++ [0, 0, 0]).getD i 0)) := Lib.hid (fun m => lits_app HXl.out m)
      have hbc := Lib.hid (fun (w4 : World) (a4 : Option Addr) (k4 c4 : Nat) (zs4 : List Int) (hA4 : AtG w0 B w4 p G) (h1 : Row .u32 w4 a4 k4 zs4) (h2 : k4 ≤ c4) (h3 : ∀ i, IsLit (zs4.getD i 0)) => hA4.brought h1 h2 h3)
      go_cut [16] (fun s wx => ∃ a16 c16, s = .slice a16 (min xn 5 + 3) c16 ∧ Hid (Mine w0 wx 42 (.slice a16 (min xn 5 + 3) c16) (min xn 5 + 3) ((broughtL G (xs.take 5 ++ [0, 0, 0])).map (Value.int .u32))) ∧ Hid (Below w6.heap.size w6 wx))
      case first =>
        by_cases h5 : xn ≤ 5
        · have hln : Hid (xa = none → xn = 0) := Lib.hid (fun h => by
            rcases HX.out.2.2 with h0 | ⟨_, _, h1, _⟩
            · exact h0
            · rw [h] at h1; cases h1)
          have hmin : Hid (min xn 5 = xn) := Lib.hid (by omega)
          have hzl : Hid (((xs.take xn).map (Value.int .u32)).length = xn * 1) := Lib.hid (by simp; have := HX.out.len; omega)
          have hzc := Lib.hid (row_news HX6.out (m := xn) (by omega) (w' := w6.alloc (.cells #[.int .u32 0, .int .u32 0, .int .u32 0] 41)) ((Below.refl _ _).alloc (Nat.le_refl _) _))
          go_wp2_with (first
            | (at_builtin; refine wpList_append_grows _ rfl _ _ 25 rfl 41 q0 (.int .u32 0) 1 4 Try.underlying25 hq qz0 qz1 qz2 rfl (by decide) xa xn xn ((xs.take xn).map (Value.int .u32)) rfl (fun h => ⟨hln.out h, hln.out h⟩) hzl.out hzc.out ⟨w6.heap.size, 0, none⟩ 3 3 [.int .u32 0, .int .u32 0, .int .u32 0] rfl rfl (news3 (by go_simp) (by go_simp) (by go_simp)) (by simp [Value.oneCell']) (by omega) (by unfold maxLen; omega) (by omega) ?_; intro v4 w4 hown4 hg4; obtain ⟨a4, c4, rfl⟩ := own_slice hown4; have hbb4 := Lib.hid (below_new1 hg4); have hb4c := Lib.hid (hbc.out w4 a4 (xn + 3) c4 _ (hA6.out.step hbb4.out) (row_app hown4) (own_cap hown4) (hlits.out xn)); clear hown4)
            | (go_at_call 10; (with_reducible refine hb4c.out.mono ?_); rintro e w5 ⟨a5, c5, rfl, hM5, hB5⟩))
          go_meet
          refine ⟨a5, c5, ?_, ?_, ?_⟩
          · rw [hmin.out]
          · have htk : xs.take xn = xs.take 5 := by first | rfl | (have := HX.out.len; rw [List.take_of_length_le (by omega), List.take_of_length_le (by omega)])
            have e : min (xn + 3) 8 = xn + 3 := by omega
            rw [hmin.out, ← htk]
            refine Lib.hid ?_
            first | exact hM5 | (rw [e] at hM5; exact hM5)
          · exact Lib.hid (nextw hbb4.out hB5)
        · have h6 : 5 < xn := by omega
          have hln : Hid (xa = none → 5 = 0) := Lib.hid (fun h => by
            rcases HX.out.2.2 with h0 | ⟨_, _, h1, _⟩
            · omega
            · rw [h] at h1; cases h1)
          have hmin : Hid (min xn 5 = 5) := Lib.hid (by omega)
          have hzl : Hid (((xs.take 5).map (Value.int .u32)).length = 5 * 1) := Lib.hid (by simp; have := HX.out.len; omega)
          have hzc := Lib.hid (row_news HX6.out (m := 5) (by omega) (w' := w6.alloc (.cells #[.int .u32 0, .int .u32 0, .int .u32 0] 41)) ((Below.refl _ _).alloc (Nat.le_refl _) _))
          go_wp2_with (first
            | (at_builtin; refine wpList_append_grows _ rfl _ _ 25 rfl 41 q0 (.int .u32 0) 1 4 Try.underlying25 hq qz0 qz1 qz2 rfl (by decide) xa 5 5 ((xs.take 5).map (Value.int .u32)) rfl (fun h => ⟨hln.out h, hln.out h⟩) hzl.out hzc.out ⟨w6.heap.size, 0, none⟩ 3 3 [.int .u32 0, .int .u32 0, .int .u32 0] rfl rfl (news3 (by go_simp) (by go_simp) (by go_simp)) (by simp [Value.oneCell']) (by omega) (by unfold maxLen; omega) (by omega) ?_; intro v4 w4 hown4 hg4; obtain ⟨a4, c4, rfl⟩ := own_slice hown4; have hbb4 := Lib.hid (below_new1 hg4); have hb4c := Lib.hid (hbc.out w4 a4 (5 + 3) c4 _ (hA6.out.step hbb4.out) (row_app hown4) (own_cap hown4) (hlits.out 5)); clear hown4)
            | (go_at_call 10; (with_reducible refine hb4c.out.mono ?_); rintro e w5 ⟨a5, c5, rfl, hM5, hB5⟩))
          go_meet
          refine ⟨a5, c5, ?_, ?_, ?_⟩
          · rw [hmin.out]
          · have htk : xs.take 5 = xs.take 5 := by first | rfl | (have := HX.out.len; rw [List.take_of_length_le (by omega), List.take_of_length_le (by omega)])
            have e : min (5 + 3) 8 = 5 + 3 := by omega
            rw [hmin.out, ← htk]
            refine Lib.hid ?_
            first | exact hM5 | (rw [e] at hM5; exact hM5)
          · exact Lib.hid (nextw hbb4.out hB5)
      case rest =>
        obtain ⟨a16, c16, rfl, hC, hBx⟩ := hcut
        obtain ⟨g4, rfl⟩ : ∃ g4, a16 = some ⟨g4, 0, none⟩ := by
          rcases hC.out.own.2 with ⟨h0, _⟩ | ⟨g, cap, cur, hv, _⟩
          · simp at h0
          · simp at hv; exact ⟨g, hv.1⟩
        have hSt := Lib.hid (St.mk (hA6.out.step hBx.out) (hIN6.out.step hBx.out) (hE6.out.step hBx.out) (hM6.step hBx.out) hC.out)
        have hBL : AllThere G (broughtL G xs) := brought_all hA6.out.wf (by omega) xs
        have hCL : AllThere G (broughtL G (xs.take 5 ++ [0, 0, 0])) := brought_all hA6.out.wf (by omega) _
        have hl3 : (broughtL G xs).length = min xn 8 := by have := hM6.own.1; simpa using this
        have hSW := Lib.hid hA6.out.wf
        obtain ⟨G1, G2, G3, G4, G5, l1, l2, l3, l4, l5, F5⟩ := five hA6.out.wf hG9 hBL (by omega) (hCL.at (i := 0) (by rw [hCl.out]; omega)) (hCL.at (i := 1) (by rw [hCl.out]; omega)) (hCL.at (i := 2) (by rw [hCl.out]; omega))
        (try clear HA); (try clear HW); (try clear HWs); (try clear hwk); (try clear HM); (try clear hwlen); (try clear HX); (try clear HXl); (try clear hxle); (try clear hwle); (try clear hjm); (try clear hj); (try clear z0); (try clear z1)
        clear x0 hbc hlits HX6 hq qz0 qz1 qz2 hi hz0 hz1 hz2 hA6 hIN6 hE6 hM6 hC hBx hBL hCL hbr hR ho
        have hc4 : 3 ≤ min xn 5 + 3 := by omega
        have hm3 : min xn 8 ≤ 8 := by omega
        generalize broughtL G xs = BL at *
        generalize broughtL G (xs.take 5 ++ [0, 0, 0]) = CL at *
        generalize min xn 5 + 3 = n4 at *
        generalize min xn 8 = n3 at *
        generalize hm0 : G.inputs.length = m at *
        have hm0 := Lib.hid hm0
        generalize hnn : G.nodes.length = nn at *
        have hnn := Lib.hid hnn
        have F5 := Lib.hid F5
        have k1 := Lib.hid (hSt.out.many And_any and_ok (by omega) (.inr rfl) F5.out.b0 (by omega) (by rw [hnn.out]; omega) F5.out.h1)
        have k2 := Lib.hid (fun w' p' (h : St w0 B a10 m c10 IN a13 nn E0 a15 n3 c15 BL g4 n4 c16 CL w' p' G1) => h.many Or_any or_ok (by omega) (.inl rfl) F5.out.b1 (by omega) (by have := F5.out.n1; omega) F5.out.h2)
        have k3 := Lib.hid (fun w' p' (h : St w0 B a10 m c10 IN a13 nn E0 a15 n3 c15 BL g4 n4 c16 CL w' p' G2) => h.many Xor_any xor_ok (by omega) (.inl rfl) F5.out.b2 (by omega) (by have := F5.out.n2; omega) F5.out.h3)
        have k4 := Lib.hid (fun w' p' (h : St w0 B a10 m c10 IN a13 nn E0 a15 n3 c15 BL g4 n4 c16 CL w' p' G3) => h.mux (by have := F5.out.n3; omega) F5.out.c30 F5.out.c31 F5.out.c32 F5.out.h4)
        have k5 := Lib.hid (fun w' p' (h : St w0 B a10 m c10 IN a13 nn E0 a15 n3 c15 BL g4 n4 c16 CL w' p' G4) => h.raw (by have := F5.out.n4; omega) F5.out.c40 F5.out.c41 F5.out.h5)
        have k6 := Lib.hid (fun w' p' (h : St w0 B a10 m c10 IN a13 nn E0 a15 n3 c15 BL g4 n4 c16 CL w' p' G5) => h.eval (by rw [F5.out.ins]; exact hm0.out) (by omega) hIN.out)
        have hn5 := F5.out.n5
        have hle5 := F5.out.le
        rw [hnn.out] at hle5
        have hd0 : decide (G5.nodes.length < nn) = false := by simp; omega
        have cl := Lib.hid (fun w' p' G' (h : St w0 B a10 m c10 IN a13 nn E0 a15 n3 c15 BL g4 n4 c16 CL w' p' G') => (⟨h.cells (by omega), h.cells (by omega), h.cells (by omega)⟩ : w'.cell? ⟨g4, 0, none⟩ = some (.int .u32 (CL.getD 0 0)) ∧ w'.cell? ⟨g4, 1, none⟩ = some (.int .u32 (CL.getD 1 0)) ∧ w'.cell? ⟨g4, 2, none⟩ = some (.int .u32 (CL.getD 2 0))))
        go_wp2_with (first
          | (go_at_call 11; (with_reducible refine k1.out.mono ?_); rintro e w1 ⟨rfl, p1, hs1⟩; have t2 := Lib.hid (k2.out _ _ hs1); clear hs1)
          | (go_at_call 12; (with_reducible refine t2.out.mono ?_); rintro e w2 ⟨rfl, p2, hs2⟩; have t3 := Lib.hid (k3.out _ _ hs2); clear hs2)
          | (go_at_call 13; (with_reducible refine t3.out.mono ?_); rintro e w3 ⟨rfl, p3, hs3⟩; have t4 := Lib.hid (k4.out _ _ hs3); obtain ⟨x0, x1, x2⟩ := cl.out _ _ _ hs3; clear hs3))
        have y0 : (0 : Int) < (n4 : Int) := by omega
        have y0n : 0 < n4 := by omega
        have y1 : (1 : Int) < (n4 : Int) := by omega
        have y2 : (2 : Int) < (n4 : Int) := by omega
        generalize CL.getD 0 0 = z0 at *
        generalize CL.getD 1 0 = z1 at *
        generalize CL.getD 2 0 = z2 at *
        go_region_held3 (fun w' => w'.cell? ⟨g4, 0, none⟩ = some (.int .u32 z0) ∧ w'.cell? ⟨g4, 1, none⟩ = some (.int .u32 z1) ∧ w'.cell? ⟨g4, 2, none⟩ = some (.int .u32 z2)) (go_keep) (first | (go_at_call 14; (with_reducible refine t4.out.mono ?_); rintro e w4 ⟨rfl, p4, hs4⟩; have t5 := Lib.hid (k5.out _ _ hs4); obtain ⟨x0, x1, x2⟩ := cl.out _ _ _ hs4; clear hs4))
        go_wp2
        go_region_held3 (fun w' => w'.cell? ⟨g4, 0, none⟩ = some (.int .u32 z0) ∧ w'.cell? ⟨g4, 1, none⟩ = some (.int .u32 z1) ∧ w'.cell? ⟨g4, 2, none⟩ = some (.int .u32 z2)) (go_keep) (first | (go_at_call 15; (with_reducible refine t5.out.mono ?_); rintro e w5 ⟨rfl, p5, hs5⟩; have t6 := Lib.hid (k6.out _ _ hs5); obtain ⟨x0, x1, x2⟩ := cl.out _ _ _ hs5; clear hs5))
        go_wp2_with (go_at_call 9; (with_reducible refine t6.out.mono ?_); rintro e w6 ⟨E5, a27, rfl, hM7, hE7, hV7, hs6⟩; have hM7 := Lib.hid hM7; have hs6 := Lib.hid hs6)
        have cl6 := Lib.hid (cl.out _ _ _ hs6.out)
        clear t6 k1 k2 k3 k4 k5 k6 cl x0 x1 x2 y0 y1 y2 t2 t3 t4 t5
        have hsame := Lib.hid (Val.same hSW.out (F5.out.val hV7).1 hV0 (fun _ _ => rfl))
        have hB6 : Hid (Below w.heap.size w w6) := Lib.hid (hST.out.below.trans (hs6.out.at'.below.mono hST.out.below.size))
        have hr5 := Lib.hid (hM7.out.row (by omega)).1
        have hr0 := Lib.hid (hs6.out.bef.row (by omega)).1
        obtain ⟨b5, o5, rfl, hb5, hc5⟩ := hr5.out.at (by have := hSW.out.pos; rw [hnn.out] at this; omega)
        obtain ⟨b0, o0, rfl, hb0, hc0⟩ := hr0.out.at (by have := hSW.out.pos; rw [hnn.out] at this; omega)
        have hc5 := Lib.hid hc5
        have hc0 := Lib.hid hc0
        go_loopw [182] (fun i wr => ∃ j : Nat, j ≤ nn ∧ i = .int .i64 j ∧ Below w6.heap.size w6 wr) (fun i _ => nn - (intOf i).toNat)
        case atStart => exact ⟨0, Nat.zero_le _, rfl, Below.refl _ _⟩
        case round =>
          obtain ⟨j, hj, rfl, hB⟩ := hrel
          by_cases hjm : j < nn
          · have x5 := stepc hB hb5 (hc5.out j (by omega))
            have x0 := stepc hB hb0 (hc0.out j hjm)
            rw [hsame.out j (by rw [hnn.out]; exact hjm)] at x5
            generalize E0.getD j 0 = V at *
            go_wp2
            go_quiet (fail)
            go_wp2
            go_roundw
            case rel => exact ⟨j + 1, by omega, by go_num, nextw hB (below_draws _ _)⟩
            case measure => simp [intOf]; omega
          · obtain rfl : j = nn := by omega
            (try clear hc5); (try clear hc0); (try clear hsame); (try clear hSW); (try clear hE0); (try clear hV0); (try clear hr0); (try clear hb0); (try clear hmm); (try clear hnn)
            go_wp2
            have hB3 := Lib.hid (hs6.out.b.row (by omega)).1
            have hW7 := hV7.words
            have hwd := Lib.hid (fun l (hl : IsLit l) w' (hb : Below w6.heap.size w6 w') => word_any l (some ⟨b5, o5, none⟩) G5.nodes.length G5.nodes.length E5 hl w' (hr5.out.step hb) hW7)
            obtain ⟨z_0, z_1, z_2, e1, e2, e3, e4, e5⟩ := F5.out.lits
            obtain ⟨-, v1, v2, v3, v4, v5⟩ := F5.out.val hV7
            have hl3' := F5.out.b0
            have f0 := Lib.hid (fun o z => show foldW o z E5 (BL.take 0) = z from rfl)
            have fs := Lib.hid (fun o z j (h : j < BL.length) => foldW_succ o z E5 BL j h)
            have HB := Lib.hid hB
            clear hB
            go_loopw [30, 31, 32, 197] (fun p1 p2 p3 i wr => ∃ j : Nat, j ≤ n3 ∧ i = .int .i64 j ∧ p1 = .int .u64 (foldW .and 18446744073709551615 E5 (BL.take j)) ∧ p2 = .int .u64 (foldW .or 0 E5 (BL.take j)) ∧ p3 = .int .u64 (foldW .xor 0 E5 (BL.take j)) ∧ Below w6.heap.size w6 wr) (fun _ _ _ i _ => n3 - (intOf i).toNat)
            case atStart => exact ⟨0, Nat.zero_le _, rfl, by rw [f0.out], by rw [f0.out], by rw [f0.out], HB.out⟩
            case round =>
              clear HB
              obtain ⟨j, hj, rfl, rfl, rfl, rfl, hB⟩ := hrel
              by_cases hjm : j < n3
              · obtain ⟨b3, o3, rfl, hb3, hc3⟩ := hB3.out.at (by omega)
                have x3 := stepc hB hb3 (hc3 j hjm)
                have y1 := Lib.hid (fs.out .and 18446744073709551615 j (by omega))
                have y2 := Lib.hid (fs.out .or 0 j (by omega))
                have y3 := Lib.hid (fs.out .xor 0 j (by omega))
                have hy := Lib.hid (hwd.out (BL.getD j 0) (hl3'.at (by omega)).1 _ hB)
                clear hc3
                generalize BL.getD j 0 = Y at *
                generalize wordV Y E5 = WY at *
                generalize foldW .and 18446744073709551615 E5 (BL.take j) = P1 at *
                generalize foldW .or 0 E5 (BL.take j) = P2 at *
                generalize foldW .xor 0 E5 (BL.take j) = P3 at *
                go_wp2_with (go_at_call 16; (with_reducible refine hy.out.mono ?_); rintro e w8 ⟨rfl, rfl⟩)
                go_roundw
                case rel => exact ⟨j + 1, by omega, by go_num, by rw [y1.out], by rw [y2.out], by rw [y3.out], hB⟩
                case measure => simp [intOf]; omega
              · obtain rfl : j = n3 := by omega
                have ht : BL.take j = BL := List.take_of_length_le (by omega)
                have hT40 : ¬ ((40 : Int) < (T.length : Int)) := by omega
                have hT41 : decide ((T.length : Int) ≤ 40) = true := by simp; omega
                rw [← ht] at v1 v2 v3
                have hBn := Lib.hid (fun n => nextw hB (below_draws wr n))
                have hSt6 := hs6.out.c
                obtain ⟨x0, x1, x2⟩ : w6.cell? ⟨g4, 0, none⟩ = some (.int .u32 z0) ∧ w6.cell? ⟨g4, 1, none⟩ = some (.int .u32 z1) ∧ w6.cell? ⟨g4, 2, none⟩ = some (.int .u32 z2) := cl6.out
                have hg4 : g4 < w6.heap.size := own_lt hSt6.own
                have x0 := stepc hB hg4 x0
                have x1 := stepc hB hg4 x1
                have x2 := stepc hB hg4 x2
                have y0 : (0 : Int) < (n4 : Int) := by omega
                have y1 : (1 : Int) < (n4 : Int) := by omega
                have y2 : (2 : Int) < (n4 : Int) := by omega
                have q1 := Lib.hid (fun w' hb => word_as (a := some ⟨b5, o5, none⟩) (n := G5.nodes.length) (cap := G5.nodes.length) v1 e1 w' (hr5.out.step hb) hW7)
                have q2 := Lib.hid (fun w' hb => word_as (a := some ⟨b5, o5, none⟩) (n := G5.nodes.length) (cap := G5.nodes.length) v2 e2 w' (hr5.out.step hb) hW7)
                have q3 := Lib.hid (fun w' hb => word_as (a := some ⟨b5, o5, none⟩) (n := G5.nodes.length) (cap := G5.nodes.length) v3 e3 w' (hr5.out.step hb) hW7)
                have q4 := Lib.hid (fun w' hb => word_as (a := some ⟨b5, o5, none⟩) (n := G5.nodes.length) (cap := G5.nodes.length) v4 e4 w' (hr5.out.step hb) hW7)
                have q5 := Lib.hid (fun w' hb => word_as (a := some ⟨b5, o5, none⟩) (n := G5.nodes.length) (cap := G5.nodes.length) v5 e5 w' (hr5.out.step hb) hW7)
                have r0 := Lib.hid (fun w' hb => word_as (a := some ⟨b5, o5, none⟩) (n := G5.nodes.length) (cap := G5.nodes.length) (show wordV z0 E5 = _ from rfl) z_0 w' (hr5.out.step hb) hW7)
                have r1 := Lib.hid (fun w' hb => word_as (a := some ⟨b5, o5, none⟩) (n := G5.nodes.length) (cap := G5.nodes.length) (show wordV z1 E5 = _ from rfl) z_1 w' (hr5.out.step hb) hW7)
                have r2 := Lib.hid (fun w' hb => word_as (a := some ⟨b5, o5, none⟩) (n := G5.nodes.length) (cap := G5.nodes.length) (show wordV z2 E5 = _ from rfl) z_2 w' (hr5.out.step hb) hW7)
                clear v1 v2 v3 v4 v5 hwd f0 fs hSt6 hl3' F5 hs6 hB3 hM7 hE7 hV7 hr5 e1 e2 e3 e4 e5 z_0 z_1 z_2
                generalize wordV z0 E5 = U0 at *
                generalize wordV z1 E5 = U1 at *
                generalize wordV z2 E5 = U2 at *
                generalize foldW .and 18446744073709551615 E5 (BL.take j) = P1 at *
                generalize foldW .or 0 E5 (BL.take j) = P2 at *
                generalize foldW .xor 0 E5 (BL.take j) = P3 at *
                have HB := Lib.hid hB
                go_wp2
                go_quiet (first
                  | (go_at_call 16; with_reducible exact Calls.quiet_of_same ((r0.out _ (hBn.out _)).mono (fun _ _ h => ⟨h.1, h.2.symm⟩)))
                  | (go_at_call 16; with_reducible exact Calls.quiet_of_same ((r1.out _ (hBn.out _)).mono (fun _ _ h => ⟨h.1, h.2.symm⟩)))
                  | (go_at_call 16; with_reducible exact Calls.quiet_of_same ((r2.out _ (hBn.out _)).mono (fun _ _ h => ⟨h.1, h.2.symm⟩))))
                go_wp2_with (first
                  | (go_at_call 16; (with_reducible refine (q1.out _ (hBn.out _)).mono ?_); rintro e w9 ⟨rfl, rfl⟩)
                  | (go_at_call 16; (with_reducible refine (q2.out _ (hBn.out _)).mono ?_); rintro e w9 ⟨rfl, rfl⟩)
                  | (go_at_call 16; (with_reducible refine (q3.out _ (hBn.out _)).mono ?_); rintro e w9 ⟨rfl, rfl⟩)
                  | (go_at_call 16; (with_reducible refine (q4.out _ (hBn.out _)).mono ?_); rintro e w9 ⟨rfl, rfl⟩)
                  | (go_at_call 16; (with_reducible refine (q5.out _ (hBn.out _)).mono ?_); rintro e w9 ⟨rfl, rfl⟩))
                refine bodyPost_ret (v := .bool true) (by simp [results, Try.results3, go_sem]) rfl ⟨rfl, ?_⟩
                exact hB6.out.trans ((hBn.out _).mono hB6.out.size)
end Go.Proofs.Ytlbmbpkabmihnaa
