/-
  The walk of LitOver: its first loop.
-/
import Derived.Test.YtbpiccbjnagodaaLitP
import Derived.Deep.DeepCutAuto
import Derived.Deep.RegionHeld3
import Derived.Deep.AppendLies
import Derived.Deep.CutBlock
import Derived.Outline
namespace Go.Proofs.Ytbpiccbjnagodaa
open Go.RowKit Bits

/-- A block of eight integers. -/
def Eight (k : IntKind) (w : World) (b : Nat) (zs : List Int) : Prop := b < w.heap.size ∧ ∀ i, i < 8 → w.cell? ⟨b, i, none⟩ = some (.int k (zs.getD i 0))
theorem Eight.step {k : IntKind} {w w2 : World} {b : Nat} {zs : List Int} (h : Eight k w b zs) (hb : Below w.heap.size w w2) : Eight k w2 b zs :=
  ⟨Nat.lt_of_lt_of_le h.1 hb.size, fun i hi => stepc hb h.1 (h.2 i hi)⟩
/-- As long as nothing below B is turned. -/
theorem Eight.low {k : IntKind} {w w2 : World} {B b : Nat} {zs : List Int} (h : Eight k w b zs) (hb : Below B w w2) (hlt : b < B) : Eight k w2 b zs :=
  ⟨Nat.lt_of_lt_of_le h.1 hb.size, fun i hi => by rw [hb.cell (p := ⟨b, i, none⟩) hlt]; exact h.2 i hi⟩
theorem Row.low {k : IntKind} {w w2 : World} {B n : Nat} {a : Option Addr} {l : List Int} (h : Row k w a n l) (hb : Below B w w2) (hB : w.heap.size ≤ B) : Row k w2 a n l := by
  obtain ⟨h1, h2, h3⟩ := h
  refine ⟨h1, h2, ?_⟩
  rcases h3 with h3 | ⟨b, off, rfl, hlt, hc⟩
  · exact .inl h3
  · exact .inr ⟨b, off, rfl, Nat.lt_of_lt_of_le hlt hb.size, fun i hi => by rw [hb.cell (p := ⟨b, off + i, none⟩) (by show b < B; omega)]; exact hc i hi⟩

theorem info_u64 : (Try.prog.info? 41).map (fun i => (i.zero, i.size, i.bytes)) = some (some (.int .u64 0), 1, 8) := by kernel_rfl

/-- The law's three boxes. -/
structure Boxes (w wx : World) (one two ws : List Int) : Prop where
  hB : Below w.heap.size w wx
  e1 : Eight .u32 wx w.heap.size one
  e2 : Eight .u32 wx (w.heap.size + 1) two
  e3 : Eight .u64 wx (w.heap.size + 2) ws
theorem Boxes.low {w wx w2 : World} {one two ws : List Int} (h : Boxes w wx one two ws) (hb : Below (w.heap.size + 3) wx w2) : Boxes w w2 one two ws :=
  ⟨h.hB.trans (hb.mono (by omega)), h.e1.low hb (by omega), h.e2.low hb (by omega), h.e3.low hb (by omega)⟩
theorem Boxes.size {w wx : World} {one two ws : List Int} (h : Boxes w wx one two ws) : w.heap.size + 3 ≤ wx.heap.size := by have := h.e3.1; omega

theorem boxes_mk (w : World) (one two ws : List Int) (T1 T2 : Nat) (h1 : one.length = 8) (h2 : two.length = 8) (h3 : ws.length = 8) :
    Boxes w (((w.alloc (.cells (one.map (Value.int .u32)).toArray T1)).alloc (.cells (two.map (Value.int .u32)).toArray T1)).alloc (.cells (ws.map (Value.int .u64)).toArray T2)) one two ws := by
  refine ⟨(((Below.refl _ _).alloc (Nat.le_refl _) _).alloc (by simp) _).alloc (by simp; omega) _, ⟨by simp; omega, fun i hi => ?_⟩, ⟨by simp, fun i hi => ?_⟩, ⟨by simp, fun i hi => ?_⟩⟩
  · simp [go_sem, h1, hi, List.getD]
  · simp [go_sem, h2, hi, List.getD]
  · simp [go_sem, h3, hi, List.getD]


/-- What the first loop leaves. -/
def OverA (w : World) (zs one two ws : List Int) (m : Nat) (s9 : Value) (wx : World) : Prop :=
  ∃ a capx, s9 = .slice a m capx ∧ Row .u32 wx a m (row m (m16 zs)) ∧ Boxes w wx one two ws

/-- Two rows of the call's own, apart. -/
def Apart (u v : Value) : Prop := ∀ k, u.ownBlock = some k → v.ownBlock = some k → False

theorem own_kept {w w1 : World} {base e size n : Nat} {v v2 : Value} {xs : List Value} (h : w.ownsRow base e size v n xs) (hg : w.grownBy w1 v2.ownBlock) (ha : Apart v v2) : w1.ownsRow base e size v n xs := by
  refine h.kept hg ?_
  cases hv : v.ownBlock with
  | none => exact .inl rfl
  | some k => right; intro he; exact ha k hv he.symm
theorem Apart.symm {u v : Value} (h : Apart u v) : Apart v u := fun k a b => h k b a
theorem own_blk {w : World} {base e size n : Nat} {v : Value} {xs : List Value} (h : w.ownsRow base e size v n xs) {k : Nat} (hk : v.ownBlock = some k) : k < w.heap.size := by
  rcases h.2 with ⟨rfl, _⟩ | ⟨g, cap, cur, rfl, _, hh, _⟩
  · simp [Value.ownBlock] at hk
  · simp [Value.ownBlock] at hk; subst hk
    exact (Array.getElem?_eq_some_iff.1 hh).1
/-- A row that has grown stays apart from another: its block is what it was, or new. -/
theorem Apart.grown {w : World} {base e size n g cap k H : Nat} {u v : Value} {xs : List Value} (h : Apart u v) (hv : w.ownsRow base e size v n xs) (hH : w.heap.size ≤ H) (hg : u.ownBlock = some g ∨ g = H) : Apart (.slice (some ⟨g, 0, none⟩) k cap) v := by
  intro b h1 h2
  simp [Value.ownBlock] at h1
  subst h1
  rcases hg with hg | hg
  · exact h _ hg h2
  · have := own_blk hv h2; omega
theorem keep_grown {w w1 : World} {row : Option Nat} {x y : Addr} {u v : Value} (hg : w.grownBy w1 row) (hx : w.cell? x = some u ∧ w.cell? y = some v) (nx : some x.block ≠ row) (ny : some y.block ≠ row) : w1.cell? x = some u ∧ w1.cell? y = some v :=
  ⟨hg.cell hx.1 nx, hg.cell hx.2 ny⟩
theorem news_at {w : World} {b : Nat} {x : Value} (h : w.cell? ⟨b, 0, none⟩ = some x) : ∀ (j : Nat) (u : Value), [x][j]? = some u → w.cell? ((⟨b, 0, none⟩ : Addr).add j) = some u := by
  intro j u hj
  match j with
  | 0 => simp at hj; subst hj; simpa [Addr.add] using h
  | j + 1 => simp at hj
/-- What the second loop leaves. -/
def OverB (one two : List Int) (wc : World) (s10 s11 : Value) (wx : World) : Prop :=
  ∃ gf cf gg cg, s10 = .slice (some ⟨gf, 0, none⟩) 8 cf ∧ s11 = .slice (some ⟨gg, 0, none⟩) 8 cg ∧ wx.ownsRow wc.heap.size 24 1 (.slice (some ⟨gf, 0, none⟩) 8 cf) 8 ((row 8 (m16 one)).map (Value.int .u32)) ∧
    wx.ownsRow wc.heap.size 24 1 (.slice (some ⟨gg, 0, none⟩) 8 cg) 8 ((row 8 (m16 two)).map (Value.int .u32)) ∧ gf ≠ gg ∧ Below wc.heap.size wc wx
/-- What stands behind the two stores. -/
def OverC (w : World) (zs one two ws : List Int) (m : Nat) (a : Option Addr) (gf gg : Nat) (wx : World) : Prop :=
  Row .u32 wx a m (row m (m16 zs)) ∧ Row .u32 wx (some ⟨gf, 0, none⟩) 8 (row 8 (z16 one)) ∧ Row .u32 wx (some ⟨gg, 0, none⟩) 8 (row 8 (z16 two)) ∧ Boxes w wx one two ws
/-- What the third loop leaves. -/
def OverW (one ws : List Int) (w6 : World) (s24 : Value) (wx : World) : Prop :=
  ∃ gw cw, s24 = .slice (some ⟨gw, 0, none⟩) 8 cw ∧ Row .u64 wx (some ⟨gw, 0, none⟩) 8 (row 8 (fun i => wordV ((row 8 (z16 one)).getD i 0) ws)) ∧ Below w6.heap.size w6 wx
theorem eight_row {k : IntKind} {w : World} {b : Nat} {zs : List Int} (hl : zs.length = 8) (h : Eight k w b zs) : Row k w (some ⟨b, 0, none⟩) 8 zs :=
  ⟨hl, by omega, .inr ⟨b, 0, rfl, h.1, fun i hi => by rw [Nat.zero_add]; exact h.2 i hi⟩⟩
theorem row_cell {k : IntKind} {w : World} {g n i : Nat} {l : List Int} (h : Row k w (some ⟨g, 0, none⟩) n l) (hi : i < n) : w.cell? ⟨g, i, none⟩ = some (.int k (l.getD i 0)) := by
  obtain ⟨b, off, he, _, hc⟩ := h.at (by omega)
  simp at he
  obtain ⟨rfl, rfl⟩ := he
  have := hc i hi
  rwa [Nat.zero_add] at this
theorem row_lt {k : IntKind} {w : World} {g n i : Nat} {l : List Int} (h : Row k w (some ⟨g, 0, none⟩) n l) (hi : i < n) : g < w.heap.size := by
  obtain ⟨b, off, he, hlt, _⟩ := h.at (by omega)
  simp at he
  obtain ⟨rfl, rfl⟩ := he
  exact hlt
/-- Its round. -/
def OverR (one two : List Int) (wc : World) (v10 v11 : Value) (j : Nat) (wx : World) : Prop :=
  wx.ownsRow wc.heap.size 24 1 v10 j ((row j (m16 one)).map (Value.int .u32)) ∧
    wx.ownsRow wc.heap.size 24 1 v11 j ((row j (m16 two)).map (Value.int .u32)) ∧ Apart v10 v11 ∧ Below wc.heap.size wc wx

/-- Both rows have grown, one behind the other. -/
theorem over_next {base T j g1 cap1 g2 cap2 : Nat} {wc W0 w1 W1 w2 : World} {u v x1 x2 : Value} {xs ys : List Value} (hB : Below base wc W0) (hb : base ≤ wc.heap.size) (hu : W0.ownsRow base T 1 u j xs) (hv : W0.ownsRow base T 1 v j ys) (hap : Apart u v)
    (ho1 : w1.ownsRow base T 1 (.slice (some ⟨g1, 0, none⟩) (j + 1) cap1) (j + 1) (xs ++ [x1])) (hg1 : W0.grownBy w1 u.ownBlock) (ha1 : u.ownBlock = some g1 ∨ g1 = W0.heap.size)
    (hW : Below w1.heap.size w1 W1)
    (ho2 : w2.ownsRow base T 1 (.slice (some ⟨g2, 0, none⟩) (j + 1) cap2) (j + 1) (ys ++ [x2])) (hg2 : W1.grownBy w2 v.ownBlock) (ha2 : v.ownBlock = some g2 ∨ g2 = W1.heap.size) :
    w2.ownsRow base T 1 (.slice (some ⟨g1, 0, none⟩) (j + 1) cap1) (j + 1) (xs ++ [x1]) ∧ w2.ownsRow base T 1 (.slice (some ⟨g2, 0, none⟩) (j + 1) cap2) (j + 1) (ys ++ [x2]) ∧ Apart (.slice (some ⟨g1, 0, none⟩) (j + 1) cap1) (.slice (some ⟨g2, 0, none⟩) (j + 1) cap2) ∧ Below base wc w2 := by
  have hap1 : Apart (.slice (some ⟨g1, 0, none⟩) (j + 1) cap1) v := hap.grown hv (Nat.le_refl _) ha1
  have ho1' := own_below ho1 hW
  refine ⟨own_kept ho1' hg2 hap1, ho2, (hap1.symm.grown ho1' (Nat.le_refl _) ha2).symm, ?_⟩
  have h1 := hB.grown hg1 (Nat.le_trans hb hB.size) (own_ge hu)
  have h2 := h1.trans (hW.mono (Nat.le_trans hb h1.size))
  exact h2.grown hg2 (Nat.le_trans hb h2.size) (own_ge hv)

theorem over_swap {A B : Prop} {u v : Value} {C : Prop} (h : A ∧ B ∧ Apart u v ∧ C) : B ∧ A ∧ Apart v u ∧ C := ⟨h.2.1, h.1, h.2.2.1.symm, h.2.2.2⟩

set_option maxRecDepth 100000 in
set_option maxHeartbeats 4000000 in
theorem over_law1 (p : Option Addr) (n cap m : Nat) (zs one two ws : List Int) (w : World) (hs : Row .u32 w p n zs) (hzs : ∀ i, IsLit (zs.getD i 0)) (hon : ∀ i, IsLit (one.getD i 0)) (htw : ∀ i, IsLit (two.getD i 0)) (hm : Hid (m = if n ≤ 60 then n else 60)) (hcap : cap ≤ 9223372036854775807)
    (h1 : one.length = 8) (h2 : two.length = 8) (h3 : Hid (ws.length = 8)) (hws : Hid (Words ws)) :
    Calls Try.prog 5 #[.slice p n cap, .agg (one.map (Value.int .u32)).toArray, .agg (two.map (Value.int .u32)).toArray, .agg (ws.map (Value.int .u64)).toArray] w fun e w' => e = .returned (.bool true) ∧ Below w.heap.size w w' := by
  have hbx := Lib.hid (boxes_mk w one two ws 47 48 h1 h2 h3.out)
  obtain ⟨i0, hi, hz0, hz1, hz2⟩ := info_parts info_lit
  have hm60 : Hid (m ≤ 60) := by show m ≤ 60; rw [hm.out]; split <;> omega
  have HZ := Lib.hid hzs
  have HO := Lib.hid hon
  have HT := Lib.hid htw
  have HS := Lib.hid hs
  have hn := hs.le
  clear hs hzs hon htw h1 h2
  generalize hA1 : (one.map (Value.int .u32)).toArray = A1 at *
  generalize hA2 : (two.map (Value.int .u32)).toArray = A2 at *
  generalize hA3 : (ws.map (Value.int .u64)).toArray = A3 at *
  clear hA1 hA2 hA3
  go_enter Try.func5, Try.ntmps5
  go_upto_block 0 with fail
  go_cut [9] (fun s9 wx => OverA w zs one two ws m s9 wx)
  case first =>
   go_wp2_with fail
   go_loopw [9, 12] (fun s i wr => ∃ (j : Nat) (v : Value), s = v ∧ j ≤ n ∧ j ≤ 60 ∧ i = .int .i64 j ∧ wr.ownsRow (w.heap.size + 3) 24 1 v j ((row j (m16 zs)).map (Value.int .u32)) ∧ Boxes w wr one two ws) (fun _ i _ => n - (intOf i).toNat)
   case atStart => exact ⟨0, _, rfl, Nat.zero_le _, Nat.zero_le _, rfl, ⟨rfl, .inl ⟨rfl, rfl⟩⟩, hbx.out⟩
   case round =>
     clear hbx
     obtain ⟨j, v, hsv, hj, hj2, rfl, hown, hbx⟩ := hrel
     have hsv2 := hsv.symm
     clear hsv
     subst hsv2
     by_cases hlt : j < n ∧ j < 60
     · obtain ⟨hlt, hlt2⟩ := hlt
       obtain ⟨b, off, rfl, hb, hc⟩ := HS.out.at (by omega)
       have hcj := (hbx.hB.cell (p := ⟨b, off + j, none⟩) hb).trans (hc j hlt)
       have hsn := Lib.hid (m16_snoc zs j)
       have hx : Hid (m16 zs j = zs.getD j 0 % 16) := rfl
       have hsz := hbx.size
       have hbx := Lib.hid hbx
       have hy := HZ.out j
       obtain ⟨hy0, hy1⟩ := hy
       generalize zs.getD j 0 = y at hcj hx hy0 hy1
       have hx0 : Hid (y % 16 = m16 zs j) := hx.out.symm
       have hd2 : decide ((j : Int) < 60) = true := by simp; omega
       have hd1 : decide (j < n) = true := by simp; omega
       clear hc hx
       go_wp2_with (at_builtin; refine wpList_append_own _ rfl _ _ 49 rfl (w.heap.size + 3) 24 i0 (.int .u32 0) 1 4 Try.underlying49 hi hz0 hz1 hz2 rfl (by decide) _ _ _ rfl (hown.alloc _) ⟨wr.heap.size, 0, none⟩ 1 1 [.int .u32 (y % 16)] rfl rfl (news1 _ _ _) (by simp [Value.oneCell']) (by unfold maxLen; omega) (by omega) (by simp; omega) ?_; intro v' w1 hown' hgrow _)
       have hgr := Lib.hid hgrow
       have ho2 := Lib.hid hown'
       have hge := Lib.hid (own_ge hown)
       clear hown hgrow hown' hcj
       go_roundw
       case rel =>
         refine ⟨j + 1, v', rfl, by omega, by omega, by go_num, ?_, ?_⟩
         · rw [hsn.out, ← hx0.out]; exact ho2.out
         · exact hbx.out.low (((Below.refl _ _).alloc hsz _).grown hgr.out (by simp; omega) hge.out)
       case measure => simp [intOf]; omega
     · have hd : Hid (j = m) := by
         show _ = _; rw [hm.out]; split <;> omega
       have hfin : Hid (OverA w zs one two ws m v wr) := by
         have e := hd.out
         subst e
         obtain ⟨a, capx, rfl⟩ := own_slice hown
         exact ⟨a, capx, rfl, Row.of_own hown (row_length _ _) (by omega), hbx⟩
       by_cases hlt2 : j < n
       · have hj60 : j = 60 := by omega
         subst hj60
         go_wp2_with fail
         go_meet
         exact hfin.out
       · obtain rfl : j = n := by omega
         go_wp2_with fail
         go_meet
         exact hfin.out

  case rest =>
    obtain ⟨wa, rfl⟩ : ∃ wa : World, wa = wc := ⟨_, rfl⟩
    obtain ⟨a, capx, rfl, hrx, hbx⟩ := hcut
    clear HS hm hcap hn
    have HBX := Lib.hid hbx
    have HRX := Lib.hid hrx
    have hsz := hbx.size
    clear hrx hbx
    go_upto_block 2 with fail
    go_cut [10, 11] (fun s10 s11 wx => OverB one two wa s10 s11 wx)
    case first =>
      go_wp2_with fail
      go_loopw [10, 11, 13] (fun s10 s11 i wr => ∃ (j : Nat) (v10 v11 : Value), s10 = v10 ∧ s11 = v11 ∧ j ≤ 8 ∧ i = .int .i64 j ∧ OverR one two wa v10 v11 j wr) (fun _ _ i _ => 8 - (intOf i).toNat)
      case atStart => exact ⟨0, _, _, rfl, rfl, Nat.zero_le _, rfl, ⟨rfl, .inl ⟨rfl, rfl⟩⟩, ⟨rfl, .inl ⟨rfl, rfl⟩⟩, fun k h => (by simp [Value.ownBlock] at h), Below.refl _ _⟩
      case round =>
        obtain ⟨j, v10, v11, hs1, hs2, hj, rfl, hf, hg, hap, hB⟩ := hrel
        have hs1' := hs1.symm
        have hs2' := hs2.symm
        clear hs1 hs2
        subst hs1' hs2'
        by_cases hlt : j < 8
        · have c1 := (HBX.out.e1.low hB (by omega)).2 j hlt
          have c2 := (HBX.out.e2.low hB (by omega)).2 j hlt
          have b1 := HO.out j
          have b2 := HT.out j
          have s1 := Lib.hid (m16_snoc one j)
          have s2 := Lib.hid (m16_snoc two j)
          have x1 : Hid (one.getD j 0 % 16 = m16 one j) := rfl
          have x2 : Hid (two.getD j 0 % 16 = m16 two j) := rfl
          obtain ⟨b10, b11⟩ := b1
          obtain ⟨b20, b21⟩ := b2
          have hwc := hB.size
          have n1 : some w.heap.size ≠ v10.ownBlock := fun h => by have := own_ge hf _ h.symm; omega
          have n2 : some w.heap.size ≠ v11.ownBlock := fun h => by have := own_ge hg _ h.symm; omega
          have n3 : some (w.heap.size + 1) ≠ v10.ownBlock := fun h => by have := own_ge hf _ h.symm; omega
          have n4 : some (w.heap.size + 1) ≠ v11.ownBlock := fun h => by have := own_ge hg _ h.symm; omega
          have m1 : some wr.heap.size ≠ v10.ownBlock := fun h => by have := own_blk hf h.symm; omega
          have m2 : some (wr.heap.size + 1) ≠ v10.ownBlock := fun h => by have := own_blk hf h.symm; omega
          have m3 : some wr.heap.size ≠ v11.ownBlock := fun h => by have := own_blk hg h.symm; omega
          have m4 : some (wr.heap.size + 1) ≠ v11.ownBlock := fun h => by have := own_blk hg h.symm; omega
          generalize one.getD j 0 = y1 at c1 x1 b10 b11
          generalize two.getD j 0 = y2 at c2 x2 b20 b21
          have j0 : (0 : Int) ≤ (j : Int) := by omega
          have j8 : (j : Int) < 8 := by omega
          have hf := Lib.hid hf
          have hg := Lib.hid hg
          have hap := Lib.hid hap
          have e1 : Hid ((row (j + 1) (m16 one)).map (Value.int .u32) = (row j (m16 one)).map (Value.int .u32) ++ [.int .u32 (y1.tmod 16)]) := by
            show _ = _; rw [s1.out, ← x1.out, Int.tmod_eq_emod_of_nonneg b10]
          have e2 : Hid ((row (j + 1) (m16 two)).map (Value.int .u32) = (row j (m16 two)).map (Value.int .u32) ++ [.int .u32 (y2.tmod 16)]) := by
            show _ = _; rw [s2.out, ← x2.out, Int.tmod_eq_emod_of_nonneg b20]
          clear s1 s2 x1 x2
          go_wp2_with fail
          go_region_held3 (fun w' => w'.cell? ⟨w.heap.size, j, none⟩ = some (.int .u32 y1) ∧ w'.cell? ⟨w.heap.size + 1, j, none⟩ = some (.int .u32 y2)) (first | go_keep | (exact keep_grown hgrow1 (by go_keep) n1 n3) | (exact keep_grown hgrow2 (by go_keep) n2 n4))
            (first | ((refine step_append_lies _ (by rfl) (.tmp 49) (.tmp 54) _ (by rfl) wa.heap.size 24 i0 (.int .u32 0) 1 4 Try.underlying49 hi hz0 hz1 hz2 rfl (by decide) v10 j _ (by rfl) (by first | exact (hf.out.drew.alloc _) | exact ((hf.out.drew.alloc _).alloc _) | exact ((own_kept (hf.out.drew.alloc _) hgrow2 hap.out).alloc _) | exact (own_kept ((hf.out.drew.alloc _).alloc _) hgrow2 hap.out)) _ 1 1 [.int .u32 (y1.tmod 16)] (by rfl) rfl (news_at (by first | (go_simp; done) | exact hgrow1.cell (by go_simp) m1 | exact hgrow1.cell (by go_simp) m2 | exact hgrow2.cell (by go_simp) m3 | exact hgrow2.cell (by go_simp) m4)) (by simp [Value.oneCell']) (by decide) (by unfold maxLen; omega) (by omega) (by first | (simp; omega) | (have := hgrow1.size; simp at this ⊢; omega) | (have := hgrow2.size; simp at this ⊢; omega)) _ rfl ?_; intro g1 cap1 w1 hown1 hgrow1 hat1 hlt1)) | ((refine step_append_lies _ (by rfl) (.tmp 56) (.tmp 61) _ (by rfl) wa.heap.size 24 i0 (.int .u32 0) 1 4 Try.underlying49 hi hz0 hz1 hz2 rfl (by decide) v11 j _ (by rfl) (by first | exact (hg.out.drew.alloc _) | exact ((hg.out.drew.alloc _).alloc _) | exact ((own_kept (hg.out.drew.alloc _) hgrow1 hap.out.symm).alloc _) | exact (own_kept ((hg.out.drew.alloc _).alloc _) hgrow1 hap.out.symm)) _ 1 1 [.int .u32 (y2.tmod 16)] (by rfl) rfl (news_at (by first | (go_simp; done) | exact hgrow1.cell (by go_simp) m1 | exact hgrow1.cell (by go_simp) m2 | exact hgrow2.cell (by go_simp) m3 | exact hgrow2.cell (by go_simp) m4)) (by simp [Value.oneCell']) (by decide) (by unfold maxLen; omega) (by omega) (by first | (simp; omega) | (have := hgrow1.size; simp at this ⊢; omega) | (have := hgrow2.size; simp at this ⊢; omega)) _ rfl ?_; intro g2 cap2 w2 hown2 hgrow2 hat2 hlt2)))
          all_goals go_wp2_with fail
          all_goals go_roundw
          all_goals try (case measure => simp [intOf]; omega)
          all_goals refine ⟨j + 1, _, _, rfl, rfl, by omega, by go_num, ?_⟩
          all_goals unfold OverR
          all_goals rw [e1.out, e2.out]
          all_goals first
            | exact over_next (u := v10) (v := v11) (by first | exact (hB.alloc hwc _).drew | exact ((hB.alloc hwc _).alloc (by simp; omega) _).drew) (Nat.le_refl _) (by first | exact (hf.out.alloc _).drew | exact ((hf.out.alloc _).alloc _).drew) (by first | exact (hg.out.alloc _).drew | exact ((hg.out.alloc _).alloc _).drew) hap.out hown1 hgrow1 hat1 (by first | exact Below.refl _ _ | exact (Below.refl _ _).alloc (Nat.le_refl _) _) hown2 hgrow2 hat2
            | exact over_swap (over_next (u := v11) (v := v10) (by first | exact (hB.alloc hwc _).drew | exact ((hB.alloc hwc _).alloc (by simp; omega) _).drew) (Nat.le_refl _) (by first | exact (hg.out.alloc _).drew | exact ((hg.out.alloc _).alloc _).drew) (by first | exact (hf.out.alloc _).drew | exact ((hf.out.alloc _).alloc _).drew) hap.out.symm hown2 hgrow2 hat2 (by first | exact Below.refl _ _ | exact (Below.refl _ _).alloc (Nat.le_refl _) _) hown1 hgrow1 hat1)
        · obtain rfl : j = 8 := by omega
          obtain ⟨gf, cf, rfl⟩ := own_form hf (by omega)
          obtain ⟨gg, cg, rfl⟩ := own_form hg (by omega)
          have hfin : Hid (OverB one two wa (.slice (some ⟨gf, 0, none⟩) 8 cf) (.slice (some ⟨gg, 0, none⟩) 8 cg) wr) := ⟨gf, cf, gg, cg, rfl, rfl, hf, hg, fun h => hap gf (by simp [Value.ownBlock]) (by simp [Value.ownBlock, h]), hB⟩
          go_wp2_with fail
          go_meet
          exact hfin.out
    case rest =>
      obtain ⟨gf, cf, gg, cg, rfl, rfl, hf, hg, hne, hB⟩ := hcut
      obtain ⟨wb, rfl⟩ : ∃ wb : World, wb = wc := ⟨_, rfl⟩
      have hne2 : gg ≠ gf := fun h => hne h.symm
      have hbf := own_ge hf gf rfl
      have hbg := own_ge hg gg rfl
      have lf := own_lt hf
      have lg := own_lt hg
      have hff := hf.frozenAt 0
      have hfg := hg.frozenAt 0
      obtain ⟨uf, huf⟩ := own_some hf (j := 0) (by omega)
      obtain ⟨ug, hug⟩ := own_some hg (j := 0) (by omega)
      have hC : Hid (OverC w zs one two ws m a gf gg ((wb.setCell ⟨gf, 0, none⟩ (.int .u32 0)).setCell ⟨gg, 0, none⟩ (.int .u32 0))) := by
        have f1 := own_set (hf.stored 0 (.int .u32 0)).1 (a := ⟨gg, 0, none⟩) (by simp [Value.ownBlock, hne]) (.int .u32 0)
        have g1 := ((own_set hg (a := ⟨gf, 0, none⟩) (by simp [Value.ownBlock, hne2]) (.int .u32 0)).stored 0 (.int .u32 0)).1
        rw [m16_set] at f1 g1
        have hb2 := (hB.setCell (p := ⟨gf, 0, none⟩) hbf (.int .u32 0)).setCell (p := ⟨gg, 0, none⟩) hbg (.int .u32 0)
        exact ⟨HRX.out.step hb2, Row.of_own f1 (row_length _ _) (by omega), Row.of_own g1 (row_length _ _) (by omega), HBX.out.low (hb2.mono hsz)⟩
      clear hf hg HRX HBX hB
      go_upto_region 10 with fail
      go_cut [] (fun wx => OverC w zs one two ws m a gf gg wx)
      case first =>
        go_wp2_with fail
        go_meet
        exact hC.out
      case rest =>
        clear hC hff hfg huf hug lf lg
        obtain ⟨rx, rf, rg, bx⟩ := hcut
        obtain ⟨wc1, rfl⟩ : ∃ wc1 : World, wc1 = wc := ⟨_, rfl⟩
        have LX : Lit8 (row m (m16 zs)) := lit8_row fun i => ⟨m16_lit zs i, by have := m16_bd zs i; omega⟩
        have LF : Lit8 (row 8 (z16 one)) := lit8_row fun i => ⟨z16_lit one i, by have := z16_bd one i; omega⟩
        have LG : Lit8 (row 8 (z16 two)) := lit8_row fun i => ⟨z16_lit two i, by have := z16_bd two i; omega⟩
        have LX := Lib.hid LX
        have LF := Lib.hid LF
        have LG := Lib.hid LG
        have RX := Lib.hid rx
        have RF := Lib.hid rf
        have RG := Lib.hid rg
        have BX := Lib.hid bx
        have hm60 : m ≤ 1000000 := by have := hm60.out; omega
        clear rx rf rg bx
        go_wp2_with fail
        refine (over8 a m capx _ LX.out hm60 gf cf _ LF.out rfl _ RX.out RF.out).mono ?_
        rintro e w1 ⟨ga, rfl, ra, hb1⟩
        have RX := Lib.hid (RX.out.step hb1)
        have RF := Lib.hid (RF.out.step hb1)
        have RG := Lib.hid (RG.out.step hb1)
        have BX := Lib.hid (BX.out.low (hb1.mono BX.out.size))
        have RA := Lib.hid ra
        clear hb1 ra
        go_wp2_with fail
        refine (over8 _ m _ _ (lit8_over LF.out) hm60 gg cg _ LG.out rfl _ RA.out RG.out).mono ?_
        rintro e w2 ⟨gb, rfl, rb, hb1⟩
        have RX := Lib.hid (RX.out.step hb1)
        have RF := Lib.hid (RF.out.step hb1)
        have RG := Lib.hid (RG.out.step hb1)
        have RA := Lib.hid (RA.out.step hb1)
        have BX := Lib.hid (BX.out.low (hb1.mono BX.out.size))
        have RB := Lib.hid rb
        clear hb1 rb
        go_wp2_with fail
        refine (over8 _ 8 _ _ LF.out (by omega) gg cg _ LG.out rfl _ RF.out RG.out).mono ?_
        rintro e w3 ⟨gh, rfl, rh, hb1⟩
        have RX := Lib.hid (RX.out.step hb1)
        have RF := Lib.hid (RF.out.step hb1)
        have RA := Lib.hid (RA.out.step hb1)
        have RB := Lib.hid (RB.out.step hb1)
        have BX := Lib.hid (BX.out.low (hb1.mono BX.out.size))
        have RH := Lib.hid rh
        clear hb1 rh RG
        go_wp2_with fail
        refine (over8 a m _ _ LX.out hm60 gh 8 _ (lit8_over LG.out) rfl _ RX.out RH.out).mono ?_
        rintro e w4 ⟨gd, rfl, rd, hb1⟩
        have RX := Lib.hid (RX.out.step hb1)
        have RF := Lib.hid (RF.out.step hb1)
        have RA := Lib.hid (RA.out.step hb1)
        have RB := Lib.hid (RB.out.step hb1)
        have BX := Lib.hid (BX.out.low (hb1.mono BX.out.size))
        have RD := Lib.hid rd
        clear hb1 rd RH
        go_wp2_with fail
        refine (turn8 a m _ _ LX.out hm60 _ RX.out).mono ?_
        rintro e w5 ⟨gs, rfl, rs, hb1⟩
        have RX := Lib.hid (RX.out.step hb1)
        have RF := Lib.hid (RF.out.step hb1)
        have RA := Lib.hid (RA.out.step hb1)
        have RB := Lib.hid (RB.out.step hb1)
        have RD := Lib.hid (RD.out.step hb1)
        have BX := Lib.hid (BX.out.low (hb1.mono BX.out.size))
        have RS := Lib.hid rs
        clear hb1 rs
        go_wp2_with fail
        refine (over8 _ m _ _ (lit8_not LX.out) hm60 gf cf _ LF.out rfl _ RS.out RF.out).mono ?_
        rintro e w6 ⟨gt, rfl, rt, hb1⟩
        have RX := Lib.hid (RX.out.step hb1)
        have RF := Lib.hid (RF.out.step hb1)
        have RA := Lib.hid (RA.out.step hb1)
        have RB := Lib.hid (RB.out.step hb1)
        have RD := Lib.hid (RD.out.step hb1)
        have BX := Lib.hid (BX.out.low (hb1.mono BX.out.size))
        have RT := Lib.hid rt
        clear hb1 rt RS
        have RF2 := RF.out.at (by omega)
        obtain ⟨fb, foff, hfe, flt, fc⟩ := RF2
        obtain ⟨rfl, rfl⟩ : gf = fb ∧ 0 = foff := by simp at hfe; exact hfe
        have FC := Lib.hid fc
        have B3 := BX.out.e3
        have B3lt := B3.1
        have RW3 := Lib.hid (eight_row h3.out B3)
        have HWS := Lib.hid (fun i => wordV_bd hws.out ((row 8 (z16 one)).getD i 0))
        obtain ⟨j0, jin, jz0, jz1, jz2⟩ := info_parts info_u64
        clear hfe fc B3
        go_upto_block 4 with fail
        go_cut [24] (fun s24 wx => OverW one ws w6 s24 wx)
        case first =>
          go_wp2_with fail
          go_loopw [24, 25] (fun s i wr => ∃ (j : Nat) (v : Value), s = v ∧ j ≤ 8 ∧ i = .int .i64 j ∧ wr.ownsRow w6.heap.size 41 1 v j ((row j (fun i => wordV ((row 8 (z16 one)).getD i 0) ws)).map (Value.int .u64)) ∧ Below w6.heap.size w6 wr) (fun _ i _ => 8 - (intOf i).toNat)
          case atStart => exact ⟨0, _, rfl, Nat.zero_le _, rfl, ⟨rfl, .inl ⟨rfl, rfl⟩⟩, Below.refl _ _⟩
          case round =>
            obtain ⟨j, v, hsv, hj, rfl, hown, hB⟩ := hrel
            have hsv2 := hsv.symm
            clear hsv
            subst hsv2
            by_cases hlt : j < 8
            · have cy0 := FC.out j hlt
              have cy := stepc hB flt cy0
              rw [Nat.zero_add] at cy
              clear cy0
              have bw := HWS.out j
              have hl := (LF.out j).1
              have hsn : Hid ((row (j + 1) (fun i => wordV ((row 8 (z16 one)).getD i 0) ws)).map (Value.int .u64) = (row j (fun i => wordV ((row 8 (z16 one)).getD i 0) ws)).map (Value.int .u64) ++ [.int .u64 (wordV ((row 8 (z16 one)).getD j 0) ws)]) := by show _ = _; rw [row_succ, List.map_append]; rfl
              have hwd := Lib.hid (fun (W : World) (hb : Below w6.heap.size w6 W) => word_any ((row 8 (z16 one)).getD j 0) (some ⟨w.heap.size + 2, 0, none⟩) 8 8 ws hl W (RW3.out.step hb) hws.out)
              have hne : some gf ≠ v.ownBlock := fun h => by have := own_ge hown _ h.symm; omega
              have hsz := hB.size
              have j0i : (0 : Int) ≤ (j : Int) := by omega
              have j8 : (j : Int) < 8 := by omega
              have hown := Lib.hid hown
              generalize (row 8 (z16 one)).getD j 0 = y at *
              generalize wordV y ws = W at *
              clear bw hl
              go_wp2_with fail
              go_region_held3 (fun w' => w'.cell? ⟨gf, j, none⟩ = some (.int .u32 y)) (first | go_keep | (exact hgrow1.cell (by go_keep) hne))
                (first | (go_at_call 17; refine (hwd.out _ (by first | exact hB | exact hB.drew)).mono ?_; rintro e w' ⟨rfl, rfl⟩) | ((refine step_append_lies _ (by rfl) (.tmp 148) (.tmp 155) _ (by rfl) w6.heap.size 41 j0 (.int .u64 0) 1 8 Try.underlying23 jin jz0 jz1 jz2 rfl (by decide) v j _ (by rfl) (by first | exact (hown.out.drew.alloc _) | exact (hown.out.alloc _).drew | exact hown.out.alloc _) _ 1 1 [.int .u64 W] (by rfl) rfl (news_at (by go_simp)) (by simp [Value.oneCell']) (by decide) (by unfold maxLen; omega) (by omega) (by simp; omega) _ rfl ?_; intro g1 cap1 w1' hown1 hgrow1 hat1 hlt1)))
              all_goals go_wp2_with fail
              all_goals go_roundw
              all_goals try (case measure => simp [intOf]; omega)
              all_goals refine ⟨j + 1, _, rfl, by omega, by go_num, ?_, ?_⟩
              · rw [hsn.out]; exact hown1
              · first | exact ((hB.alloc hsz _).drew).grown hgrow1 (by simp; omega) (own_ge hown.out) | exact (hB.alloc hsz _).grown hgrow1 (by simp; omega) (own_ge hown.out)
            · obtain rfl : j = 8 := by omega
              obtain ⟨gw, cw, rfl⟩ := own_form hown (by omega)
              have hfin : Hid (OverW one ws w6 (.slice (some ⟨gw, 0, none⟩) 8 cw) wr) := ⟨gw, cw, rfl, Row.of_own hown (row_length _ _) (by omega), hB⟩
              go_wp2_with fail
              go_meet
              exact hfin.out
        case rest =>
          obtain ⟨wd, rfl⟩ : ∃ wd : World, wd = wc := ⟨_, rfl⟩
          obtain ⟨gw, cw, rfl, rw', hbw⟩ := hcut
          have RX := Lib.hid (RX.out.step hbw)
          have RA := Lib.hid (RA.out.step hbw)
          have RB := Lib.hid (RB.out.step hbw)
          have RD := Lib.hid (RD.out.step hbw)
          have RT := Lib.hid (RT.out.step hbw)
          have RW3 := Lib.hid (RW3.out.step hbw)
          have BX := Lib.hid (BX.out.low (hbw.mono BX.out.size))
          have RWW := Lib.hid rw'
          clear hbw rw' RF FC
          go_wp2_with fail
          go_loopw [26] (fun i wr => ∃ j : Nat, j ≤ m ∧ i = .int .i64 j ∧ Below wd.heap.size wd wr) (fun i _ => m - (intOf i).toNat)
          case atStart => exact ⟨0, Nat.zero_le _, rfl, Below.refl _ _⟩
          case round =>
            obtain ⟨j, hj, rfl, hB⟩ := hrel
            by_cases hlt : j < m
            · have F := over_fin (zs := zs) (one := one) (two := two) (ws := ws) hlt
              obtain ⟨F1, F2, F3⟩ := F
              obtain ⟨xb, xo, rfl, xlt, xc⟩ := (RX.out.step hB).at (by omega)
              have ya := row_cell (RA.out.step hB) hlt
              have yb := row_cell (RB.out.step hB) hlt
              have yd := row_cell (RD.out.step hB) hlt
              have yt := row_cell (RT.out.step hB) hlt
              have yx := xc j hlt
              rw [← F1] at yd
              rw [F2] at yt
              have la := (lit8_over (n := m) (l := row m (m16 zs)) LF.out j).1
              have lx := (LX.out j).1
              have kn := Lib.hid (fun W => Calls.low (not_any _ la W))
              have kw := Lib.hid (fun (W : World) (hb : Below wr.heap.size wr W) => Calls.low (word_any _ (some ⟨w.heap.size + 2, 0, none⟩) 8 8 ws la W ((RW3.out.step hB).step hb) hws.out))
              have kv := fun (W : World) (hb : Below wr.heap.size wr W) => Calls.low (word_any _ (some ⟨gw, 0, none⟩) 8 cw _ lx W ((RWW.out.step hB).step hb) (words_row HWS.out))
              rw [← F3] at kv
              have kv := Lib.hid kv
              have alt := (row_lt (RA.out.step hB) hlt)
              have blt := (row_lt (RB.out.step hB) hlt)
              have dlt := (row_lt (RD.out.step hB) hlt)
              have tlt := (row_lt (RT.out.step hB) hlt)
              clear F1 F2 F3 la lx xc
              generalize (row m (fun i => overV (row 8 (z16 one)) ((row m (m16 zs)).getD i 0))).getD j 0 = y at *
              generalize wordV y ws = W at *
              generalize (row m (m16 zs)).getD j 0 = x at *
              generalize notV y = ny at *
              have j0i : (0 : Int) ≤ (j : Int) := by omega
              have jm : (j : Int) < (m : Int) := by omega
              go_wp2_with fail
              have ya' := fun q => stepc (ext_below wr q) alt ya
              have yb' := fun q => stepc (ext_below wr q) blt yb
              have yd' := fun q => stepc (ext_below wr q) dlt yd
              have yt' := fun q => stepc (ext_below wr q) tlt yt
              have yx' := fun q => stepc (ext_below wr q) xlt yx
              clear ya yb yd yt yx
              (refine wp_region_ext (by kernel_rfl) (by kernel_rfl) ?_; (repeat (go_big_quiet_step ((first | (go_at_call 15; exact Calls.ext_of (kn.out _)) | (go_at_call 17; (with_reducible exact Calls.ext_of (kw.out _ (ext_below wr _)))) | (go_at_call 17; (with_reducible exact Calls.ext_of (kv.out _ (ext_below wr _)))))))); refine wpQuiet_nil ?_; intro w2 hw'; have hb2 := below_of_ext hw'; clear hw')
              clear ya' yb' yd' yt' yx'
              go_wp2_with fail
              go_roundw
              case rel => exact ⟨j + 1, by omega, by go_num, nextw hB hb2⟩
              case measure => simp [intOf]; omega
            · obtain rfl : j = m := by omega
              go_wp2_with (go_at_call 19; refine (tells_any _).mono ?_; rintro e w7 ⟨rfl, hb2⟩)
              go_ret
              exact ⟨rfl, nextw (BX.out.low (hB.mono BX.out.size)).hB hb2⟩
end Go.Proofs.Ytbpiccbjnagodaa
