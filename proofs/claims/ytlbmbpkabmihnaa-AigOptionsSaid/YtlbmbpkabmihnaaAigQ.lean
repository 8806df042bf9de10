/-
  'grown': the walk.
-/
import Derived.Test.YtlbmbpkabmihnaaAigO
import Derived.ArgAppend
namespace Go.Proofs.Ytlbmbpkabmihnaa
open Go.RowKit Go.Maps

theorem info_u32 : (Try.prog.info? 41).map (fun i => (i.zero, i.size, i.bytes)) = some (some (.int .u32 0), 1, 4) := by kernel_rfl

/-- The state of 'grown' behind some calls. -/
structure GrownR (w : World) (b0 : Nat) (G : Gr) (t : List Int) (v : Value) (wr : World) (p : Pl) : Prop where
  is : Is wr p G
  b : p.b = b0
  out : ∀ k, p.has k → w.heap.size ≤ k
  told : wr.ownsRow w.heap.size 42 1 v t.length (t.map (Value.int .u32))
  below : Below w.heap.size w wr

theorem GrownR.step {w wr w2 : World} {b0 : Nat} {G : Gr} {t : List Int} {v : Value} {p : Pl} (h : GrownR w b0 G t v wr p) (hb : Below wr.heap.size wr w2) : GrownR w b0 G t v w2 p :=
  ⟨h.is.below hb, h.b, h.out, own_below h.told hb, nextw h.below hb⟩
/-- A call, and what it told put behind. -/
theorem GrownR.more {w wr w2 w3 : World} {b0 : Nat} {G G' : Gr} {t : List Int} {v v' : Value} {x : Int} {p p' : Pl} (h : GrownR w b0 G t v wr p) (hS : Step p wr p' w2 G') (hg : w2.grownBy w3 v.ownBlock) (ho : w3.ownsRow w.heap.size 42 1 v' (t.length + 1) (t.map (Value.int .u32) ++ [.int .u32 x])) :
    GrownR w b0 G' (t ++ [x]) v' w3 p' := by
  have hs := h.below.size
  have out2 : ∀ k, p'.has k → w.heap.size ≤ k := fun k hk => by
    rcases hS.new k hk with h1 | h1
    · exact h.out k h1
    · omega
  have hB2 : Below w.heap.size w w2 := h.below.trans (hS.kept.below h.out hs)
  have ht2 := own_beside h.is h.told hS.kept (by decide) (by decide) (by decide)
  have hI3 : Is w3 p' G' := hS.is.beside (kept_grown hg) (fun k hk hp => by
    obtain ⟨cur, hh⟩ := own_type ht2 hk
    exact hS.is.other hh (by decide) (by decide) (by decide) hp)
  exact ⟨hI3, hS.b.trans h.b, out2, by simpa using ho, hB2.grown hg hB2.size (fun k hk => own_ge ht2 k hk)⟩

theorem start_R {w w1 w2 : World} {p : Pl} {F H : Bool} (hI : Is w2 p (newG F H)) (hB1 : Below w.heap.size w w1) (hB : Below w1.heap.size w1 w2) (ho : ∀ k, p.has k → w1.heap.size ≤ k) : GrownR w p.b (newG F H) [] (.slice none 0 0) w2 p :=
  ⟨hI, rfl, fun k hk => Nat.le_trans hB1.size (ho k hk), own_nil _ _ _, nextw hB1 hB⟩

theorem row_news {w w' : World} {a : Option Addr} {n m : Nat} {z : List Int} (h : Row .u32 w a n z) (hm : m ≤ n) (hb : Below w.heap.size w w') : ∀ x, a = some x → ∀ (j : Nat) (u : Value), ((z.take m).map (Value.int .u32))[j]? = some u → w'.cell? (x.add j) = some u := by
  intro x hx j u hu
  have hj := (List.getElem?_eq_some_iff.1 hu).1
  have hl := h.len
  simp at hj
  obtain ⟨b, off, e, hlt, hc⟩ := h.at (by omega)
  rw [hx] at e
  have e := Option.some.inj e
  subst e
  rw [List.getElem?_map, List.getElem?_take, if_pos (by omega)] at hu
  have hz : z[j]? = some (z.getD j 0) := by simp [List.getD, show j < z.length by omega]
  rw [hz] at hu
  simp only [Option.map_some, Option.some.injEq] at hu
  rw [← hu, Addr.add_lit]
  exact stepc hb hlt (hc j (by omega))
theorem below_new2 {w w4 : World} {o1 o2 : Obj} (hg : ((w.alloc o1).alloc o2).grownBy w4 none) : Below w.heap.size w w4 :=
  (((Below.refl _ _).alloc (Nat.le_refl _) _).alloc (by simp) _).grown hg (by simp; omega) (fun _ h => by cases h)
theorem below_new2c {w w4 : World} {x y : Value} {T : Nat} {o2 : Obj} (hg : ((w.alloc (.cells #[x, y] T)).alloc o2).grownBy w4 none) : w.heap.size < w4.heap.size ∧ w4.cell? ⟨w.heap.size, 0, none⟩ = some x := by
  have hs := hg.size
  simp at hs
  refine ⟨by omega, hg.cell ?_ (by simp)⟩
  rw [(Below.refl _ (w.alloc (.cells #[x, y] T))).alloc (Nat.le_refl _) o2 |>.cell (p := ⟨w.heap.size, 0, none⟩) (by simp)]
  exact (pair_box w x y T).1
theorem row_app {w : World} {base T m c : Nat} {a : Option Addr} {z : List Int} (h : w.ownsRow base T 1 (.slice a (m + 3) c) (m + 3) ((z.take m).map (Value.int .u32) ++ [.int .u32 0, .int .u32 0, .int .u32 0])) (hm : m ≤ 8 := by omega) : Row .u32 w a (m + 3) (z.take m ++ [0, 0, 0]) := by
  have e : (z.take m).map (Value.int .u32) ++ [.int .u32 0, .int .u32 0, .int .u32 0] = (z.take m ++ [0, 0, 0]).map (Value.int .u32) := by simp
  rw [e] at h
  exact Row.of_own h (by have := h.1; simpa using this) (by omega)
theorem lits_app {z : List Int} (h : ∀ k, IsLit (z.getD k 0)) (m : Nat) : ∀ i, IsLit ((z.take m ++ [0, 0, 0]).getD i 0) := by
  have h0 : IsLit 0 := by unfold IsLit; omega
  intro i
  rw [List.getD_eq_getElem?_getD, List.getElem?_append]
  split
  · rename_i hi
    have := h i
    rw [List.getD_eq_getElem?_getD] at this
    rw [List.getElem?_take, if_pos (by simp at hi; omega)]; exact this
  · match i - (z.take m).length with
    | 0 => exact h0
    | 1 => exact h0
    | 2 => exact h0
    | k + 3 => simpa using h0
theorem bOf_is (G : Gr) (la : Option Addr) (ln lc : Nat) (K : Int) {z : List Int} (hz : z.length = ln) {m : Nat} (hm : m = min ln 8) : (bOf G ⟨K, la, ln, lc, z⟩ = broughtL G (z.take m ++ [0, 0, 0])) ∧ (bOf G ⟨K, la, ln, lc, z⟩).length = min (m + 3) 8 := by
  have e : z.take m = z.take 8 := by
    by_cases h8 : ln ≤ 8
    · rw [List.take_of_length_le (by omega), List.take_of_length_le (by omega)]
    · rw [show m = 8 by omega]
  constructor
  · unfold bOf; rw [e]
  · unfold bOf broughtL; simp; omega

set_option maxHeartbeats 1000000 in
set_option maxRecDepth 100000 in
theorem grown_any (F H raw : Bool) {w : World} {a : Option Addr} {n cap : Nat} {l : List ActV} (hA : Acts w a n l) :
    Calls Try.prog 6 #[.agg #[.bool F, .bool H], .slice a n cap, .bool raw] w fun e w' => ∃ p v, e = .returned (.tuple #[.pointer (some ⟨p.b, 0, none⟩), v, .bool true]) ∧ GrownR w p.b (grownG F H raw l (min n 40)).1 (grownG F H raw l (min n 40)).2 v w' p := by
  have hnew := Lib.hid (fun w => new_any F H w)
  have HA := Lib.hid hA
  have hlen := hA.len
  have hle := hA.le
  have hkind := Lib.hid (fun j (h1 : j ≤ n) (h2 : j ≤ 40) => grownG_kind F H raw l j (by omega) (by omega))
  have hsucc := Lib.hid (fun j (h1 : j < n) => grownG_succ F H raw l j (by omega))
  have hzero := Lib.hid (grownG_zero F H raw l)
  generalize hM : grownG F H raw l = M at *
  clear hM hA
  go_enter Try.func6, Try.ntmps6
  go_wp2_with (go_at_call 21; refine (hnew.out _).mono ?_; rintro e w2 ⟨p0, rfl, hI, hB, hout⟩; have hR0 := Lib.hid (start_R hI ((Below.refl _ _).alloc (Nat.le_refl _) _) hB hout); clear hI hB hout)
  go_loopw [10, 20] (fun v i wr => ∃ j : Nat, j ≤ n ∧ j ≤ 40 ∧ i = .int .i64 j ∧ ∃ p, Hid (GrownR w p0.b (M j).1 (M j).2 v wr p)) (fun _ i _ => n - (intOf i).toNat)
  case atStart => exact ⟨0, Nat.zero_le _, by omega, rfl, p0, by rw [hzero.out]; exact hR0⟩
  case round =>
    clear hR0
    obtain ⟨j, hj, hj40, rfl, p, hR⟩ := hrel
    by_cases hjn : j < n
    · obtain ⟨b, off, rfl, hb, hc⟩ : ∃ b off, a = some ⟨b, off, none⟩ ∧ b < w.heap.size ∧ ∀ i, i < n → w.cell? ⟨b, off + i * 2, none⟩ = some (.int .i64 (l.getD i act0).what) ∧ w.cell? ⟨b, off + i * 2 + 1, none⟩ = some (.slice (l.getD i act0).a (l.getD i act0).n (l.getD i act0).c) := by
        rcases HA.out.cells with h0 | h
        · omega
        · exact h
      have k0 := stepc hR.out.below hb (hc j hjn).1
      have k1 := stepc hR.out.below hb (hc j hjn).2
      clear hc
      by_cases h40 : j = 40
      · have hmin : Hid (min n 40 = j) := Lib.hid (by omega)
        subst h40
        go_wp2
        refine bodyPost_ret (v := .tuple #[.pointer (some ⟨p.b, 0, none⟩), u10, .bool true]) (by simp [results, Try.results6, go_sem, hR.out.b]) rfl ⟨p, u10, rfl, ?_⟩
        rw [hmin.out, hR.out.b]
        exact hR.out.step ((Below.refl _ _).alloc (Nat.le_refl _) _)
      · have hn40 : ¬ ((j : Int) = 40) := by omega
        have hki := Lib.hid (hkind.out j (by omega) (by omega))
        have hkl : (M j).1.nodes.length ≤ 200000 := by have := hki.out.len; omega
        obtain ⟨hrow, hlc, hlit⟩ := HA.out.row j hjn
        have hbo : Hid (bOf (M j).1 (l.getD j act0) = broughtL (M j).1 ((l.getD j act0).zs.take 8 ++ [0, 0, 0])) := Lib.hid rfl
        have hsj := Lib.hid (hsucc.out j hjn)
        obtain ⟨i0, hi, hz0, hz1, hz2⟩ := info_parts info_u32
        generalize hAA : l.getD j act0 = A at *
        obtain ⟨K, la, ln, lc, z⟩ := A
        simp only at k0 k1 hrow hlc hlit hbo
        have HAA := Lib.hid hAA
        clear hAA
        have hrl := hrow.le
        have hr2 := hrow.step hR.out.below
        have HROW := Lib.hid hr2
        have hlits : Hid (∀ m, ∀ i, IsLit ((z.take m ++ [0, 0, 0]).getD i 0)) := Lib.hid (fun m => lits_app hlit m)
        have hbr := Lib.hid (fun (w4 : World) (a4 : Option Addr) (k4 c4 : Nat) (zs4 : List Int) (hR4 : GrownR w p0.b (M j).1 (M j).2 u10 w4 p) (h1 : Row .u32 w4 a4 k4 zs4) (h2 : k4 ≤ c4) (h3 : ∀ i, IsLit (zs4.getD i 0)) => by have := brought_any hR4.is hki.out.wf hkl h1 h2 h3; rw [hR4.b] at this; exact this)
        go_upto_region 9 with fail
        go_cut [15] (fun s wx => ∃ a5 c5, s = .slice a5 (bOf (M j).1 ⟨K, la, ln, lc, z⟩).length c5 ∧ Hid (wx.ownsRow w.heap.size 42 1 (.slice a5 (bOf (M j).1 ⟨K, la, ln, lc, z⟩).length c5) (bOf (M j).1 ⟨K, la, ln, lc, z⟩).length ((bOf (M j).1 ⟨K, la, ln, lc, z⟩).map (Value.int .u32))) ∧ Hid (GrownR w p0.b (M j).1 (M j).2 u10 wx p) ∧ wx.cell? ⟨wr.heap.size, 0, none⟩ = some (.int .i64 K))
        case first =>
          by_cases h8 : ln ≤ 8
          · have hln : Hid (la = none → ln = 0) := Lib.hid (fun h => by
              rcases HROW.out.2.2 with h0 | ⟨_, _, h1, _⟩
              · exact h0
              · rw [h] at h1; cases h1)
            have hzl : Hid (((z.take ln).map (Value.int .u32)).length = ln * 1) := Lib.hid (by simp; have := hrow.len; omega)
            have hzc := Lib.hid (row_news hr2 (m := ln) (by omega) (w' := (wr.alloc (.cells #[.int .i64 K, .slice la ln lc] 50)).alloc (.cells #[.int .u32 0, .int .u32 0, .int .u32 0] 41)) (((Below.refl _ _).alloc (Nat.le_refl _) _).alloc (by simp) _))
            have hbl := Lib.hid (bOf_is (M j).1 la ln lc K hrow.len (m := ln) (by omega))
            clear hrow hr2 hlit
            go_wp2_with (first
              | (at_builtin; refine wpList_append_grows _ rfl _ _ 25 rfl 41 i0 (.int .u32 0) 1 4 Try.underlying25 hi hz0 hz1 hz2 rfl (by decide) la ln ln ((z.take ln).map (Value.int .u32)) rfl (fun h => ⟨hln.out h, hln.out h⟩) hzl.out hzc.out ⟨wr.heap.size + 1, 0, none⟩ 3 3 [.int .u32 0, .int .u32 0, .int .u32 0] rfl rfl (news3 (by go_simp) (by go_simp) (by go_simp)) (by simp [Value.oneCell']) (by omega) (by unfold maxLen; omega) (by omega) ?_; intro v4 w4 hown4 hg4; obtain ⟨a4, c4, rfl⟩ := own_slice hown4; have hbb4 := Lib.hid (below_new2 hg4); have hR4 := Lib.hid (hR.out.step hbb4.out); have kb4 := Lib.hid (below_new2c hg4); have hbc := Lib.hid (hbr.out w4 a4 (ln + 3) c4 _ hR4.out (row_app hown4) (own_cap hown4) (hlits.out ln)); clear hown4)
              | (go_at_call 10; (with_reducible refine hbc.out.mono ?_); rintro e w5 ⟨v5, rfl, ho5, hb5⟩))
            obtain ⟨a5, c5, rfl⟩ := own_slice ho5
            go_meet
            refine ⟨a5, c5, ?_, ?_, ?_, ?_⟩
            · rw [hbl.out.2]
            · have h := own_base ho5 hR4.out.below.size
              rw [hbl.out.2, hbl.out.1]; exact Lib.hid h
            · exact Lib.hid (hR4.out.step hb5)
            · exact stepc hb5 kb4.out.1 kb4.out.2
          · have h9 : 8 < ln := by omega
            have hln : Hid (la = none → 8 = 0) := Lib.hid (fun h => by
              rcases HROW.out.2.2 with h0 | ⟨_, _, h1, _⟩
              · omega
              · rw [h] at h1; cases h1)
            have hzl : Hid (((z.take 8).map (Value.int .u32)).length = 8 * 1) := Lib.hid (by simp; have := hrow.len; omega)
            have hzc := Lib.hid (row_news hr2 (m := 8) (by omega) (w' := (wr.alloc (.cells #[.int .i64 K, .slice la ln lc] 50)).alloc (.cells #[.int .u32 0, .int .u32 0, .int .u32 0] 41)) (((Below.refl _ _).alloc (Nat.le_refl _) _).alloc (by simp) _))
            have hbl := Lib.hid (bOf_is (M j).1 la ln lc K hrow.len (m := 8) (by omega))
            clear hrow hr2 hlit
            go_wp2_with (first
              | (at_builtin; refine wpList_append_grows _ rfl _ _ 25 rfl 41 i0 (.int .u32 0) 1 4 Try.underlying25 hi hz0 hz1 hz2 rfl (by decide) la 8 8 ((z.take 8).map (Value.int .u32)) rfl (fun h => ⟨hln.out h, hln.out h⟩) hzl.out hzc.out ⟨wr.heap.size + 1, 0, none⟩ 3 3 [.int .u32 0, .int .u32 0, .int .u32 0] rfl rfl (news3 (by go_simp) (by go_simp) (by go_simp)) (by simp [Value.oneCell']) (by omega) (by unfold maxLen; omega) (by omega) ?_; intro v4 w4 hown4 hg4; obtain ⟨a4, c4, rfl⟩ := own_slice hown4; have hbb4 := Lib.hid (below_new2 hg4); have hR4 := Lib.hid (hR.out.step hbb4.out); have kb4 := Lib.hid (below_new2c hg4); have hbc := Lib.hid (hbr.out w4 a4 (8 + 3) c4 _ hR4.out (row_app hown4) (own_cap hown4) (hlits.out 8)); clear hown4)
              | (go_at_call 10; (with_reducible refine hbc.out.mono ?_); rintro e w5 ⟨v5, rfl, ho5, hb5⟩))
            obtain ⟨a5, c5, rfl⟩ := own_slice ho5
            go_meet
            refine ⟨a5, c5, ?_, ?_, ?_, ?_⟩
            · rw [hbl.out.2]
            · have h := own_base ho5 hR4.out.below.size
              rw [hbl.out.2, hbl.out.1]; exact Lib.hid h
            · exact Lib.hid (hR4.out.step hb5)
            · exact stepc hb5 kb4.out.1 kb4.out.2
        case rest =>
          obtain ⟨a5, c5, rfl, hO, hRc, kb⟩ := hcut
          clear hbr hlits hr2 hrow HROW hlit hbo hR k0 k1 hrl hi hz0 hz1 hz2
          obtain ⟨l0, li, lz0, lz1, lz2⟩ := info_parts info_lit
          have hB5 := bOf_len (M j).1 ⟨K, la, ln, lc, z⟩
          have hall : AllThere (M j).1 (bOf (M j).1 ⟨K, la, ln, lc, z⟩) := brought_all hki.out.wf (by omega) (z.take 8 ++ [0, 0, 0])
          have hnx : Hid (M (j + 1) = if skips raw K then M j else ((callG (M j).1 K (bOf (M j).1 ⟨K, la, ln, lc, z⟩)).1, (M j).2 ++ [(callG (M j).1 K (bOf (M j).1 ⟨K, la, ln, lc, z⟩)).2])) := hsj
          clear hsj HAA
          have htl := hki.out.told
          have hwf := hki.out.wf
          have hlen24 := hki.out.len
          have hcap5 := own_cap hO.out
          have hrow5 : Row .u32 wc a5 (bOf (M j).1 ⟨K, la, ln, lc, z⟩).length (bOf (M j).1 ⟨K, la, ln, lc, z⟩) := Row.of_own hO.out rfl (by omega)
          have hfar5 := own_far hRc.out.is hO.out (by decide) (by decide) (by decide)
          clear hO hki
          generalize bOf (M j).1 ⟨K, la, ln, lc, z⟩ = B at *
          generalize M j = s at *
          obtain ⟨G, T⟩ := s
          simp only at *
          have hT9 : T.length ≤ 40 := by omega
          by_cases e0 : K = 0
          · subst e0
            have hcall := Lib.hid (Input_any hRc.out.is hwf hkl)
            rw [hRc.out.b] at hcall
            have hnx : Hid (M (j + 1) = (inputG G, T ++ [2 * (G.nodes.length : Int)])) := hnx
            generalize 2 * (G.nodes.length : Int) = x at *
            generalize inputG G = G2 at *
            go_wp2_with (first | (go_at_call 23; (with_reducible refine hcall.out.mono ?_); rintro e w6 ⟨rfl, p', hS⟩; have hO6 := Lib.hid (own_beside hRc.out.is hRc.out.told hS.kept (by decide) (by decide) (by decide)); have hsz6 := Lib.hid (Nat.le_trans hRc.out.below.size hS.kept.size)) | (at_builtin; refine wpList_append_lies _ rfl _ _ 30 rfl w.heap.size 42 l0 (.int .u32 0) 1 4 Try.underlying30 li lz0 lz1 lz2 rfl (by decide) u10 T.length _ rfl (hO6.out.alloc _) ⟨_, 0, none⟩ 1 1 [.int .u32 x] rfl rfl (cell_one_new _ _ _) (by simp [Value.oneCell']) (by decide) (by unfold maxLen; omega) (by omega) (by have := hsz6.out; simp; omega) _ rfl ?_; intro g cap1 w7 hown1 hgrow1 hat1 hlt1; have HG7 := Lib.hid (hRc.out.more (hS.then ((Below.refl _ _).alloc (Nat.le_refl _) _)) hgrow1 hown1); clear hown1 hgrow1 hat1 hlt1))
            go_roundw
            case rel => exact ⟨j + 1, by omega, by omega, by go_num, _, by rw [hnx.out]; exact HG7⟩
            case measure => simp [intOf]; omega
          have n0 : ¬ (K = 0) := e0
          by_cases e1 : K = 1
          · subst e1
            have hcall := Lib.hid (And_any wc p G a5 _ c5 B hRc.out.is hwf hrow5 hcap5 hfar5 hall (by omega))
            rw [hRc.out.b] at hcall
            have hnx : Hid (M (j + 1) = ((manyG andG 1 G B).1, T ++ [(manyG andG 1 G B).2])) := hnx
            generalize manyG andG 1 G B = r at *
            obtain ⟨G2, x⟩ := r
            go_wp2_with (first | (go_at_call 11; (with_reducible refine hcall.out.mono ?_); rintro e w6 ⟨rfl, p', hS⟩; have hO6 := Lib.hid (own_beside hRc.out.is hRc.out.told hS.kept (by decide) (by decide) (by decide)); have hsz6 := Lib.hid (Nat.le_trans hRc.out.below.size hS.kept.size)) | (at_builtin; refine wpList_append_lies _ rfl _ _ 30 rfl w.heap.size 42 l0 (.int .u32 0) 1 4 Try.underlying30 li lz0 lz1 lz2 rfl (by decide) u10 T.length _ rfl (hO6.out.alloc _) ⟨_, 0, none⟩ 1 1 [.int .u32 x] rfl rfl (cell_one_new _ _ _) (by simp [Value.oneCell']) (by decide) (by unfold maxLen; omega) (by omega) (by have := hsz6.out; simp; omega) _ rfl ?_; intro g cap1 w7 hown1 hgrow1 hat1 hlt1; have HG7 := Lib.hid (hRc.out.more (hS.then ((Below.refl _ _).alloc (Nat.le_refl _) _)) hgrow1 hown1); clear hown1 hgrow1 hat1 hlt1))
            go_roundw
            case rel => exact ⟨j + 1, by omega, by omega, by go_num, _, by rw [hnx.out]; exact HG7⟩
            case measure => simp [intOf]; omega
          have n1 : ¬ (K = 1) := e1
          by_cases e2 : K = 2
          · subst e2
            have hcall := Lib.hid (Or_any wc p G a5 _ c5 B hRc.out.is hwf hrow5 hcap5 hfar5 hall (by omega))
            rw [hRc.out.b] at hcall
            have hnx : Hid (M (j + 1) = ((manyG orG 0 G B).1, T ++ [(manyG orG 0 G B).2])) := hnx
            generalize manyG orG 0 G B = r at *
            obtain ⟨G2, x⟩ := r
            go_wp2_with (first | (go_at_call 12; (with_reducible refine hcall.out.mono ?_); rintro e w6 ⟨rfl, p', hS⟩; have hO6 := Lib.hid (own_beside hRc.out.is hRc.out.told hS.kept (by decide) (by decide) (by decide)); have hsz6 := Lib.hid (Nat.le_trans hRc.out.below.size hS.kept.size)) | (at_builtin; refine wpList_append_lies _ rfl _ _ 30 rfl w.heap.size 42 l0 (.int .u32 0) 1 4 Try.underlying30 li lz0 lz1 lz2 rfl (by decide) u10 T.length _ rfl (hO6.out.alloc _) ⟨_, 0, none⟩ 1 1 [.int .u32 x] rfl rfl (cell_one_new _ _ _) (by simp [Value.oneCell']) (by decide) (by unfold maxLen; omega) (by omega) (by have := hsz6.out; simp; omega) _ rfl ?_; intro g cap1 w7 hown1 hgrow1 hat1 hlt1; have HG7 := Lib.hid (hRc.out.more (hS.then ((Below.refl _ _).alloc (Nat.le_refl _) _)) hgrow1 hown1); clear hown1 hgrow1 hat1 hlt1))
            go_roundw
            case rel => exact ⟨j + 1, by omega, by omega, by go_num, _, by rw [hnx.out]; exact HG7⟩
            case measure => simp [intOf]; omega
          have n2 : ¬ (K = 2) := e2
          by_cases e3 : K = 3
          · subst e3
            have hcall := Lib.hid (Xor_any wc p G a5 _ c5 B hRc.out.is hwf hrow5 hcap5 hfar5 hall (by omega))
            rw [hRc.out.b] at hcall
            have hnx : Hid (M (j + 1) = ((manyG xorG 0 G B).1, T ++ [(manyG xorG 0 G B).2])) := hnx
            generalize manyG xorG 0 G B = r at *
            obtain ⟨G2, x⟩ := r
            go_wp2_with (first | (go_at_call 13; (with_reducible refine hcall.out.mono ?_); rintro e w6 ⟨rfl, p', hS⟩; have hO6 := Lib.hid (own_beside hRc.out.is hRc.out.told hS.kept (by decide) (by decide) (by decide)); have hsz6 := Lib.hid (Nat.le_trans hRc.out.below.size hS.kept.size)) | (at_builtin; refine wpList_append_lies _ rfl _ _ 30 rfl w.heap.size 42 l0 (.int .u32 0) 1 4 Try.underlying30 li lz0 lz1 lz2 rfl (by decide) u10 T.length _ rfl (hO6.out.alloc _) ⟨_, 0, none⟩ 1 1 [.int .u32 x] rfl rfl (cell_one_new _ _ _) (by simp [Value.oneCell']) (by decide) (by unfold maxLen; omega) (by omega) (by have := hsz6.out; simp; omega) _ rfl ?_; intro g cap1 w7 hown1 hgrow1 hat1 hlt1; have HG7 := Lib.hid (hRc.out.more (hS.then ((Below.refl _ _).alloc (Nat.le_refl _) _)) hgrow1 hown1); clear hown1 hgrow1 hat1 hlt1))
            go_roundw
            case rel => exact ⟨j + 1, by omega, by omega, by go_num, _, by rw [hnx.out]; exact HG7⟩
            case measure => simp [intOf]; omega
          have n3 : ¬ (K = 3) := e3
          have t0 : There G (B.getD 0 0) := hall.at (by omega)
          have t1 : There G (B.getD 1 0) := hall.at (by omega)
          have t2 : There G (B.getD 2 0) := hall.at (by omega)
          obtain ⟨b5, o5, rfl, hb5, hc5⟩ := hrow5.at (by omega)
          have x0 : wc.cell? ⟨b5, o5, none⟩ = some (.int .u32 (B.getD 0 0)) := hc5 0 (by omega)
          have x1 := hc5 1 (by omega)
          have x2 := hc5 2 (by omega)
          have y0 : (0 : Int) < (B.length : Int) := by omega
          have y0n : 0 < B.length := by omega
          have y1 : (1 : Int) < (B.length : Int) := by omega
          have y2 : (2 : Int) < (B.length : Int) := by omega
          have hnf := hfar5 _ rfl
          have hdr : Below wc.heap.size wc wc.drew := below_draws wc 1
          have hkc := Lib.hid (fun (w' w6 : World) (p' : Pl) (G' : Gr) (hB : Below wc.heap.size wc w') (hS : Step p w' p' w6 G') o => (kept_cell (o := o) hS.kept (Nat.lt_of_lt_of_le hb5 hB.size) hnf).1.trans (hB.cell (p := ⟨b5, o, none⟩) hb5))
          clear hc5 hrow5 hall hcap5 hfar5 hnf
          by_cases e4 : K = 4
          · subst e4
            have hcall := Lib.hid (fun (w' : World) (hB : Below wc.heap.size wc w') => Mux_any (hRc.out.is.below hB) hwf (by omega) t0 t1 t2)
            rw [hRc.out.b] at hcall
            have hnx : Hid (M (j + 1) = ((muxG G (B.getD 0 0) (B.getD 1 0) (B.getD 2 0)).1, T ++ [(muxG G (B.getD 0 0) (B.getD 1 0) (B.getD 2 0)).2])) := hnx
            generalize muxG G (B.getD 0 0) (B.getD 1 0) (B.getD 2 0) = r at *
            obtain ⟨G2, x⟩ := r
            generalize B.getD 0 0 = z0 at *
            generalize B.getD 1 0 = z1 at *
            generalize B.getD 2 0 = z2 at *
            generalize B.length = m at *
            go_wp2
            go_region_held3 (fun w' => w'.cell? ⟨b5, o5, none⟩ = some (.int .u32 z0) ∧ w'.cell? ⟨b5, o5 + 1, none⟩ = some (.int .u32 z1) ∧ w'.cell? ⟨b5, o5 + 2, none⟩ = some (.int .u32 z2)) (go_keep) (first | (go_at_call 14; (with_reducible refine (hcall.out _ hdr).mono ?_); rintro e w6 ⟨rfl, p', hS0⟩; have q0 := (hkc.out _ _ _ _ hdr hS0 o5).trans x0; have q1 := (hkc.out _ _ _ _ hdr hS0 (o5 + 1)).trans x1; have q2 := (hkc.out _ _ _ _ hdr hS0 (o5 + 2)).trans x2; have hS := Step.front hRc.out.is hdr hS0; have hO6 := Lib.hid (own_beside hRc.out.is hRc.out.told hS.kept (by decide) (by decide) (by decide)); have hsz6 := Lib.hid (Nat.le_trans hRc.out.below.size hS.kept.size)))
            go_wp2_with (first | (at_builtin; refine wpList_append_lies _ rfl _ _ 30 rfl w.heap.size 42 l0 (.int .u32 0) 1 4 Try.underlying30 li lz0 lz1 lz2 rfl (by decide) u10 T.length _ rfl (hO6.out.alloc _) ⟨_, 0, none⟩ 1 1 [.int .u32 x] rfl rfl (cell_one_new _ _ _) (by simp [Value.oneCell']) (by decide) (by unfold maxLen; omega) (by omega) (by have := hsz6.out; simp; omega) _ rfl ?_; intro g cap1 w7 hown1 hgrow1 hat1 hlt1; have HG7 := Lib.hid (hRc.out.more (hS.then ((Below.refl _ _).alloc (Nat.le_refl _) _)) hgrow1 hown1); clear hown1 hgrow1 hat1 hlt1))
            go_roundw
            case rel => exact ⟨j + 1, by omega, by omega, by go_num, _, by rw [hnx.out]; exact HG7⟩
            case measure => simp [intOf]; omega
          have n4 : ¬ (K = 4) := e4
          by_cases e5 : K = 5
          · subst e5
            cases raw with
            | false =>
              have hnx : Hid (M (j + 1) = (G, T)) := hnx
              go_wp2
              go_roundw
              case rel => exact ⟨j + 1, by omega, by omega, by go_num, p, by rw [hnx.out]; exact hRc⟩
              case measure => simp [intOf]; omega
            | true =>
              have hcall := Lib.hid (fun (w' : World) (hB : Below wc.heap.size wc w') => Raw_any (hRc.out.is.below hB) hwf (by omega) t0 t1)
              rw [hRc.out.b] at hcall
              have hnx : Hid (M (j + 1) = ((gateG G (B.getD 0 0) (B.getD 1 0)).1, T ++ [(gateG G (B.getD 0 0) (B.getD 1 0)).2])) := hnx
              generalize gateG G (B.getD 0 0) (B.getD 1 0) = r at *
              obtain ⟨G2, x⟩ := r
              generalize B.getD 0 0 = z0 at *
              generalize B.getD 1 0 = z1 at *
              generalize B.length = m at *
              go_wp2
              go_region_held3 (fun w' => w'.cell? ⟨b5, o5, none⟩ = some (.int .u32 z0) ∧ w'.cell? ⟨b5, o5 + 1, none⟩ = some (.int .u32 z1)) (go_keep) (first | (go_at_call 15; (with_reducible refine (hcall.out _ hdr).mono ?_); rintro e w6 ⟨rfl, p', hS0⟩; have q0 := (hkc.out _ _ _ _ hdr hS0 o5).trans x0; have q1 := (hkc.out _ _ _ _ hdr hS0 (o5 + 1)).trans x1; have hS := Step.front hRc.out.is hdr hS0; have hO6 := Lib.hid (own_beside hRc.out.is hRc.out.told hS.kept (by decide) (by decide) (by decide)); have hsz6 := Lib.hid (Nat.le_trans hRc.out.below.size hS.kept.size)))
              go_wp2_with (first | (at_builtin; refine wpList_append_lies _ rfl _ _ 30 rfl w.heap.size 42 l0 (.int .u32 0) 1 4 Try.underlying30 li lz0 lz1 lz2 rfl (by decide) u10 T.length _ rfl (hO6.out.alloc _) ⟨_, 0, none⟩ 1 1 [.int .u32 x] rfl rfl (cell_one_new _ _ _) (by simp [Value.oneCell']) (by decide) (by unfold maxLen; omega) (by omega) (by have := hsz6.out; simp; omega) _ rfl ?_; intro g cap1 w7 hown1 hgrow1 hat1 hlt1; have HG7 := Lib.hid (hRc.out.more (hS.then ((Below.refl _ _).alloc (Nat.le_refl _) _)) hgrow1 hown1); clear hown1 hgrow1 hat1 hlt1))
              go_roundw
              case rel => exact ⟨j + 1, by omega, by omega, by go_num, _, by rw [hnx.out]; exact HG7⟩
              case measure => simp [intOf]; omega
          have n5 : ¬ (K = 5) := e5
          have hsk : skips raw K = true := by simp [skips, n0, n1, n2, n3, n4, n5]
          rw [hsk] at hnx
          have hnx : Hid (M (j + 1) = (G, T)) := hnx
          go_wp2
          go_roundw
          case rel => exact ⟨j + 1, by omega, by omega, by go_num, p, by rw [hnx.out]; exact hRc⟩
          case measure => simp [intOf]; omega
    · have hmin : Hid (min n 40 = j) := Lib.hid (by omega)
      go_wp2
      refine bodyPost_ret (v := .tuple #[.pointer (some ⟨p.b, 0, none⟩), u10, .bool true]) (by simp [results, Try.results6, go_sem, hR.out.b]) rfl ⟨p, u10, rfl, ?_⟩
      rw [hmin.out, hR.out.b]
      exact hR.out
end Go.Proofs.Ytlbmbpkabmihnaa
