/-
  NetGives: rows compared; Bits; a map of rows, entry by entry; lengths told in a region that draws its order.
-/
import Derived.Test.YtjdebancpgpebaaNgB
import Derived.StringKeys
namespace Go.Proofs.Ytjdebancpgpebaa
open Go.RowKit Go.Maps Bits
set_option maxRecDepth 100000

set_option maxHeartbeats 1000000 in
theorem same_any {w : World} {a a2 : Option Addr} {n c c2 : Nat} {l : List Int} (h1 : Row .u32 w a n l) (h2 : Row .u32 w a2 n l) :
    Calls Try.prog 19 #[.slice a n c, .slice a2 n c2] w fun e w' => e = .returned (.bool true) ∧ Below w.heap.size w w' := by
  have H1 := Lib.hid h1
  have H2 := Lib.hid h2
  have hle := h1.le
  have hne := bnef' (a := (n : Int)) (b := n) rfl
  clear h1 h2
  go_enter Try.func19, Try.ntmps19
  go_wp2
  go_loopw [13] (fun s wr => ∃ j : Nat, j ≤ n ∧ s = .int .i64 j ∧ Hid (Below w.heap.size w wr)) (fun s _ => n - (intOf s).toNat)
  case atStart => exact ⟨0, Nat.zero_le _, rfl, Lib.hid (Below.refl _ _)⟩
  case round =>
    obtain ⟨j, hj, rfl, hB⟩ := hrel
    by_cases hlt : j < n
    · obtain ⟨b, off, rfl, hb, hcell⟩ := H1.out.at (by omega)
      obtain ⟨b2, off2, rfl, hb2, hcell2⟩ := H2.out.at (by omega)
      have c1 := stepc hB.out hb (hcell j hlt)
      have c2 := stepc hB.out hb2 (hcell2 j hlt)
      have hjn : (j : Int) < n := by omega
      generalize l.getD j 0 = x at *
      have hxx := bnef' (a := (x : Int)) (b := x) rfl
      have hBn := Lib.hid (fun q => nextw hB.out (below_draws wr q))
      clear hcell hcell2
      go_wp2
      go_quiet (fail)
      go_wp2
      exact ⟨⟨j + 1, by omega, by go_num, Lib.hid (hBn.out _)⟩, by simp [intOf]; omega⟩
    · obtain rfl : j = n := by omega
      go_wp2
      go_ret
      exact ⟨rfl, hB.out⟩
theorem bits_any {w0 w : World} {B C : Nat} {q : NPl} {N : Nt} (h : AtN w0 B C w q N) :
    Calls Try.prog 20 #[.pointer (some ⟨B, 0, none⟩)] w fun e w' => e = .returned (.int .i64 N.regs.length) ∧ w = w' := by
  obtain ⟨ia, ic, ra, rc, oa, oc, u1, u2, u3, a0, a1, a2, a3, a4, -⟩ := h.is.cells
  rw [h.b] at a0 a1 a2 a3 a4
  go_enter Try.func20, Try.ntmps20
  go_wp2
  go_ret
  exact ⟨rfl, rfl⟩
theorem pair_eqIn (a b : Int) (W : World) : (Op.equalIn 10000 62 (.agg #[.int .u32 a, .int .u32 b]) (.agg #[.int .u32 a, .int .u32 b])).run Try.prog W = .ok true W := by
  obtain ⟨i0, hi0⟩ := info_litS
  rw [run_equalIn_array W 9999 _ _ Try.underlying62 hi0, cells_litS]
  have q0 := part_lit #[.int .u32 a, .int .u32 b] W (i := 0) (v := .int .u32 a) rfl
  have q1 := part_lit #[.int .u32 a, .int .u32 b] W (i := 1) (v := .int .u32 b) rfl
  have f0 := run_equalIn_int (P := Try.prog) W 9998 50 .u32 .u32 a a Try.underlying50
  have f1 := run_equalIn_int (P := Try.prog) W 9998 50 .u32 .u32 b b Try.underlying50
  rw [show List.range 2 = [0, 1] from rfl]
  simp [Op.eqItems, q0, q1, f0, f1]

/-- A map of rows that is ranged over. -/
structure It (wr : World) (M r n : Nat) (D : DataW Value) (L : List Bus) (left : Lit → Bool) (cnt : Nat) : Prop where
  rg : wr.ranges Try.prog 9 tokR M r n D left cnt
  map : BusMap wr M n D L
  has : ∀ z, left z = true → has D z = true
theorem below_grown {wr w2 : World} (h : Below wr.heap.size wr w2) : wr.grownBy w2 none := ⟨h.os, h.tape, h.output, h.size, fun k hk _ => h.block k hk⟩
theorem It.step {wr w2 : World} {M r n : Nat} {D : DataW Value} {L : List Bus} {left : Lit → Bool} {cnt : Nat} (h : It wr M r n D L left cnt) (hb : Below wr.heap.size wr w2) : It w2 M r n D L left cnt :=
  ⟨h.rg.kept (below_grown hb) (by simp) (by simp), h.map.below hb, h.has⟩
theorem noLits_iter {wr : World} {M r n : Nat} {D : DataW Value} {left : Lit → Bool} {cnt : Nat} (h : wr.ranges Try.prog 9 tokR M r n D left cnt) : NoLits wr (fun k => some r = some k) := by
  obtain ⟨es, clock, since, seen, c0, hb, F, hs, hD, hr, -⟩ := h
  intro k cur fz hp hh
  cases hp; rw [hr] at hh; cases hh
section
variable {ops : Array Oper} {rest : List Oper} {o : Oper} {a : Act} {Q : Exit → Act → World → Prop} {wr : World} {M r n : Nat}
theorem wp_range_bus (hg : o.guard = none) (m : Operand) (hop : o.op = Op.range 60 m) {D : DataW Value} {L : List Bus} (hB : BusMap wr M n D L) (hm : a.eval m = .map (some M))
    (hK : ∀ w' left cnt, It w' M wr.heap.size n D L left cnt → Below wr.heap.size wr w' → wpList Try.prog ops Q rest (a.put o.dst (.pointer (some ⟨wr.heap.size, 0, none⟩))) w') : wpList Try.prog ops Q (o :: rest) a wr :=
  wpList_range_own wr hg m 60 hop 9 39 slaw Try.underlying60 tokR M n D hm hB.own (fun w' hrg hgr hsz =>
    have hb : Below wr.heap.size wr w' := ⟨hgr.os, hgr.tape, hgr.output, hgr.size, fun k hk => hgr.block k hk (by simp)⟩
    hK w' _ _ ⟨hrg, hB.below hb, fun _ h => h⟩ hb)
theorem wp_next_bus (hg : o.guard = none) (it : Operand) (hop : o.op = Op.next it false) {D : DataW Value} {L : List Bus} {left : Lit → Bool} {cnt : Nat} (hI : It wr M r n D L left cnt) (hit : a.eval it = .pointer (some ⟨r, 0, none⟩))
    (hDone : wpList Try.prog ops Q rest (a.put o.dst (.tuple #[.bool false])) wr)
    (hMore : ∀ (s : ByteArray) (jx : Nat) (b : Bus) (A : Option Addr) (c : Nat) (w' : World) (left' : Lit → Bool) (cnt' : Nat), atB L s = some jx → L[jx]? = some b → LRow w' A b.lits.length c b.lits → It w' M r n D L left' cnt' → cnt' < cnt → wr.grownBy w' (some r) →
      (Instr.entry (.pointer (some ⟨r, 0, none⟩))).run Try.prog w' = .ok (.tuple #[.string s, .slice A b.lits.length c]) w' → wpList Try.prog ops Q rest (a.put o.dst (.tuple #[.bool true, .string s, .slice A b.lits.length c])) w') : wpList Try.prog ops Q (o :: rest) a wr := by
  refine wpList_next_ranges wr hg it hop 9 slaw tokR Value.string id (fun key kl h => ?_) (fun v y _ => ⟨v, rfl⟩) M r n D left cnt hit hI.rg (fun _ _ => hDone) ?_
  · obtain ⟨s, e, -⟩ := WideMaps.string_of_keyOf Try.underlying9 h
    exact ⟨s, e⟩
  · intro s c kl y w' cnt' hkey hlk hv hat hrg hlt hgr hsz hen
    obtain ⟨s', e1, e2, e3⟩ := WideMaps.string_of_keyOf Try.underlying9 hkey
    cases e1
    have e2 : kl = skey s := e2
    subst e2
    have h1 := hI.has _ hlk
    rw [hI.map.has s e3] at h1
    obtain ⟨jx, hj⟩ : ∃ jx, atB L s = some jx := by
      cases hh : atB L s with
      | some jx => exact ⟨jx, rfl⟩
      | none =>
        unfold atB at hh
        rw [List.findIdx?_eq_none_iff] at hh
        obtain ⟨b, hb, hb2⟩ := List.any_eq_true.1 h1
        have := hh b hb
        simp [hb2] at this
    have hj0 := hj
    unfold atB at hj0
    obtain ⟨hjl, hq, -⟩ := List.findIdx?_eq_some_iff_getElem.1 hj0
    have hsk : skey L[jx].name = skey s := skey_same.2 hq
    obtain ⟨A, cc, v1, v2⟩ := hI.map.val _ (List.getElem_mem hjl)
    have h3 := hat (.map [])
    rw [tok_inv hv, ← hsk, v1] at h3
    have h4 : c = .slice A L[jx].lits.length cc := by simpa using h3.symm
    subst h4
    have hk := kept_grown hgr
    have hL := noLits_iter hI.rg
    have hne := hI.rg.ne
    exact hMore s jx L[jx] A cc w' _ cnt' hj (List.getElem?_eq_getElem hjl) (v2.keptF hk hL) ⟨hrg, hI.map.kept hk (fun e => hne (by simpa using e)) hL, fun z hz => hI.has z (by simp at hz; exact hz.1)⟩ hlt hgr hen
end
theorem It.left {wr : World} {M r n : Nat} {D : DataW Value} {L : List Bus} {left : Lit → Bool} {cnt : Nat} (h : It wr M r n D L left cnt) : wr.rangeLeft M r = cnt := h.rg.left_eq
/-- len(m), in a region that draws its order. -/
theorem quiet_blen {o : Oper} {a : Act} {K : Act → Prop} {W : World} {M j : Nat} {L : List Bus} (hM : BMap W M j L) (m : Operand) (ho : o.op = Op.call { callee := Callee.builtin Builtin.len, args := #[m], argTypes := #[60] }) (hm : a.eval m = .map (some M)) (hk : K (a.put o.dst (.int .i64 L.length))) :
    o.quiet Try.prog a (fun w' => ∃ x, w' = ext W x) K :=
  ⟨_, fun w hw => by
    obtain ⟨q, rfl⟩ := hw
    obtain ⟨k, D, -, hB⟩ := hM.below (ext_below W q)
    unfold Oper.quietAt execOp
    have := hB.own.len Try.underlying60 o.type
    rw [hB.size] at this
    simp [ho, resolve, invoke, builtin, hm, this, Result.andThen]
    exact ⟨rfl, rfl⟩, hk⟩
theorem quiet_rlen {o : Oper} {a : Act} {K : Act → Prop} {W : World} {M j : Nat} {R : List Rg} (hM : RMap W M j R) (m : Operand) (ho : o.op = Op.call { callee := Callee.builtin Builtin.len, args := #[m], argTypes := #[61] }) (hm : a.eval m = .map (some M)) (hk : K (a.put o.dst (.int .i64 R.length))) :
    o.quiet Try.prog a (fun w' => ∃ x, w' = ext W x) K :=
  ⟨_, fun w hw => by
    obtain ⟨q, rfl⟩ := hw
    obtain ⟨k, D, -, hB⟩ := hM.below (ext_below W q)
    unfold Oper.quietAt execOp
    have := hB.own.len Try.underlying61 o.type
    rw [hB.size] at this
    simp [ho, resolve, invoke, builtin, hm, this, Result.andThen]
    exact ⟨rfl, rfl⟩, hk⟩
theorem Gv.start {w0 w2 : World} {B C : Nat} {q : NPl} {N : Nt} (h : AtN w0 B C w2 q N) : Gv w0 B C w2.heap.size (w2.heap.size + 1) (w2.heap.size + 1 + 1) 0 q N [] [] [] (((w2.alloc (.map #[] 0)).alloc (.map #[] 0)).alloc (.map #[] 0)) := by
  have hb : ∀ w : World, Below w.heap.size w (w.alloc (.map #[] 0)) := fun w => (Below.refl _ _).alloc (Nat.le_refl _) _
  have e1 : (w2.alloc (.map #[] 0)).heap.size = w2.heap.size + 1 := by simp
  have e2 : ((w2.alloc (.map #[] 0)).alloc (.map #[] 0)).heap.size = w2.heap.size + 1 + 1 := by simp
  have hlt : ∀ k, q.has k → k < w2.heap.size := fun k hk => h.is.has_lt hk
  have hs := h.below.size
  have m2 := BMap.nil (w2.alloc (.map #[] 0)) 0
  have m3 := RMap.nil ((w2.alloc (.map #[] 0)).alloc (.map #[] 0)) 0
  rw [e1] at m2
  rw [e2] at m3
  exact ⟨((h.step (hb _)).step (hb _)).step (hb _), ((BMap.nil w2 0).below (hb _)).below (hb _), m2.below (hb _), m3,
    fun e => by have := hlt _ e; omega, fun e => by have := hlt _ e; omega, fun e => by have := hlt _ e; omega, by omega, by omega, by omega, hs, by omega, by omega⟩
theorem keptc {F : Nat → Prop} {w w' : World} {b i : Nat} {v : Value} (hk : Kept F w w') (hb : b < w.heap.size) (hn : ¬ F b) (h : w.cell? ⟨b, i, none⟩ = some v) : w'.cell? ⟨b, i, none⟩ = some v := by
  rw [World.cell?_of_block (hk.block b hb hn), h]
/-- m[s] = row, as it runs. -/
theorem put_run {wr : World} {M j : Nat} {L : List Bus} (hM : BMap wr M j L) (hj : j ≤ 100) {s : ByteArray} {A : Option Addr} {n c : Nat} {l : List Int} (hs : s.size ≤ 80) (hn : (atB L s).isSome ≠ true) (hr : LRow wr A n c l) :
    ∃ w7, (Instr.mapUpdate 60 (.map (some M)) (.string s) (.slice A n c)).run Try.prog wr = .ok () w7 ∧ BMap w7 M (j + 1) (L ++ [⟨s, l⟩]) ∧ wr.grownBy w7 (some M) := by
  obtain ⟨k, D, hk, hB⟩ := hM
  have hs2 : s.size ≤ maxLen := Nat.le_trans hs (by unfold maxLen; omega)
  obtain ⟨w', hrun, r1, r2⟩ := hB.own.update slaw Try.underlying60 (small_len (by omega)) (skey_of s hs2) (val := .slice A n c) (d := .held (.slice A n c)) (ps := []) rfl
  exact ⟨w', hrun, ⟨k + 1, _, by omega, hB.put hs2 hn hr r1 r2⟩, r2⟩
theorem find_named {w : World} {a : Option Addr} {n c : Nat} {L : List Bus} (h : BusRow w (.slice a n c) L) (hn : n = L.length) (hw : ∀ b ∈ L, b.lits.length ≤ 64) {s : ByteArray} {jx : Nat} {b : Bus} (hat : atB L s = some jx) (hb : L[jx]? = some b) :
    Calls Try.prog 11 #[.slice a n c, .string s] w fun e w' => ∃ (a2 : Option Addr) (c2 : Nat), e = .returned (.tuple #[.slice a2 b.lits.length c2, .bool true]) ∧ LRow w' a2 b.lits.length c2 b.lits ∧ Below w.heap.size w w' := by
  have := Find_any h hn hw s
  rw [hat] at this
  exact this.mono fun e w' ⟨b', a2, c2, e1, e2, e3, e4⟩ => by rw [hb] at e1; cases e1; exact ⟨a2, c2, e2, e3, e4⟩
theorem bits_ext {w0 w : World} {B C : Nat} {q : NPl} {N : Nt} (h : AtN w0 B C w q N) :
    Calls Try.prog 20 #[.pointer (some ⟨B, 0, none⟩)] w fun e w' => e = .returned (.int .i64 N.regs.length) ∧ Below w.heap.size w w' :=
  (bits_any h).mono fun _ _ ⟨h1, h2⟩ => ⟨h1, h2 ▸ Below.refl _ _⟩
end Go.Proofs.Ytjdebancpgpebaa
