/-
  Package trace: a reader's table.
-/
import Derived.Test.YtnhpjacodhdpeaaDoorTrL
import Derived.Deep.RegionLaw
namespace Go.Proofs.YtnhpjacodhdpeaaDoor
open Go.RowKit Go.Maps Bits
set_option maxRecDepth 100000

def u64s (l : List Int) : List Value := l.map (Value.int .u64)
/-- A table that a reader is filling. -/
structure TbS (w0 wk : World) (r tb : Nat) (L : List TB) (va vt v2 : Value) (G : List (List Int)) (kv : List Value) (l : List UInt8) : Prop where
  lo : r < w0.heap.size
  tlo : w0.heap.size ≤ tb
  kr : KR r w0 wk
  rd : Rd wk r l
  bus : wk.ownsRow w0.heap.size 69 2 va L.length (busCs L)
  top : wk.ownsRow w0.heap.size 46 1 vt L.length (u64s (tops L))
  box : wk.heap[tb]? = some (.cells #[va, v2] 25 (0, 0))
  own : wk.ownsRow w0.heap.size 37 1 v2 G.length kv
  rows : ∀ i, i < G.length → ∃ x, kv[i]? = some x ∧ wk.ownsRow w0.heap.size 46 1 x (G.getD i []).length (u64s (G.getD i []))
section
variable {w0 wk w' w8 : World} {r tb : Nat} {L : List TB} {va vt v2 v8 x : Value} {G : List (List Int)} {kv : List Value} {l l' : List UInt8} {g : List Int}
theorem TbS.sz (h : TbS w0 wk r tb L va vt v2 G kv l) : w0.heap.size ≤ wk.heap.size := h.kr.size
theorem TbS.next (h : TbS w0 wk r tb L va vt v2 G kv l) (hk : KR r wk w') (hr : Rd w' r l') : TbS w0 w' r tb L va vt v2 G kv l' := by
  have row : ∀ {T size n : Nat} {v : Value} {xs : List Value}, wk.ownsRow w0.heap.size T size v n xs → w'.ownsRow w0.heap.size T size v n xs := fun hr => own_keptF hr hk (fun k e hk => by have := (hr.lt k e).1; have := h.lo; omega)
  refine ⟨h.lo, h.tlo, h.kr.trans hk, hr, row h.bus, row h.top, ?_, row h.own, fun i hi => ?_⟩
  · rw [hk.block tb (Array.getElem?_eq_some_iff.1 h.box).1 (by have := h.lo; have := h.tlo; omega)]; exact h.box
  · obtain ⟨x, e1, e2⟩ := h.rows i hi; exact ⟨x, e1, row e2⟩
theorem TbS.step (h : TbS w0 wk r tb L va vt v2 G kv l) (hb : Below wk.heap.size wk w') : TbS w0 w' r tb L va vt v2 G kv l := h.next (KR.of_below hb) (h.rd.step hb)
theorem TbS.cells (h : TbS w0 wk r tb L va vt v2 G kv l) : wk.cell? ⟨tb, 0, none⟩ = some va ∧ wk.cell? ⟨tb, 1, none⟩ = some v2 := ⟨cell_of_heap h.box 0 _ rfl, cell_of_heap h.box 1 _ rfl⟩
theorem own_other {w w' : World} {base T size n : Nat} {v : Value} {xs : List Value} {F : Nat → Prop} (h : w.ownsRow base T size v n xs) (hk : Kept F w w') (hF : ∀ k, F k → ∃ cur T' z, w.heap[k]? = some (.cells cur T' z) ∧ T' ≠ T) : w'.ownsRow base T size v n xs :=
  own_keptF h hk (fun k e hf => by
    obtain ⟨c, hc⟩ := own_type h e
    obtain ⟨cur, T', z, h1, h2⟩ := hF k hf
    rw [hc] at h1; simp at h1; exact h2 h1.2.1.symm)
/-- One row more. -/
theorem TbS.push (h : TbS w0 wk r tb L va vt v2 G kv l) (hx : wk.ownsRow w0.heap.size 46 1 x g.length (u64s g)) {o : Obj} (h1 : w8.ownsRow w0.heap.size 37 1 v8 (G.length + 1) (kv ++ [x])) (h2 : (wk.alloc o).grownBy w8 v2.ownBlock) :
    w8.cell? ⟨tb, 1, none⟩ = some v2 ∧ w8.frozen? ⟨tb, 1, none⟩ = false ∧ TbS w0 (w8.setCell ⟨tb, 1, none⟩ v8) r tb L va vt v8 (G ++ [g]) (kv ++ [x]) l := by
  have ha : Below wk.heap.size wk (wk.alloc o) := (Below.refl _ _).alloc (Nat.le_refl _) _
  have hA := h.step ha
  have hk8 : Kept (fun k => v2.ownBlock = some k) (wk.alloc o) w8 := ⟨h2.os, h2.tape, h2.output, h2.size, fun k hk hn => h2.block k hk (fun e => hn e.symm)⟩
  have hty : ∀ k, v2.ownBlock = some k → ∃ cur T' z, (wk.alloc o).heap[k]? = some (.cells cur T' z) ∧ T' = 37 := fun k e => by
    obtain ⟨c, hc⟩ := own_type hA.own e; exact ⟨c, _, _, hc, rfl⟩
  have hbox8 : w8.heap[tb]? = some (.cells #[va, v2] 25 (0, 0)) := by
    rw [hk8.block tb (Array.getElem?_eq_some_iff.1 hA.box).1 (fun e => by
      obtain ⟨c, T', z, h3, h4⟩ := hty tb e
      rw [hA.box] at h3; simp at h3; rw [h4] at h3; exact absurd h3.2.1 (by decide))]
    exact hA.box
  have hks : Kept (fun k => k = tb) w8 (w8.setCell ⟨tb, 1, none⟩ v8) := ⟨rfl, rfl, rfl, by simp, fun k _ hn => Below.heap_setCell _ _ _ _ hn⟩
  have row : ∀ {T size n : Nat} {v : Value} {xs : List Value}, T ≠ 37 → T ≠ 25 → (wk.alloc o).ownsRow w0.heap.size T size v n xs → (w8.setCell ⟨tb, 1, none⟩ v8).ownsRow w0.heap.size T size v n xs := fun hT hT2 hr =>
    own_other (own_other hr hk8 (fun k e => by obtain ⟨c, T', z, h3, h4⟩ := hty k e; exact ⟨c, T', z, h3, by rw [h4]; exact fun e => hT e.symm⟩)) hks (fun k e => by subst e; exact ⟨_, _, _, hbox8, fun e => hT2 e.symm⟩)
  refine ⟨cell_of_heap hbox8 1 _ rfl, frozen_of_row w8 tb 1 _ _ hbox8, h.lo, h.tlo, ?_, ?_, row (by decide) (by decide) hA.bus, row (by decide) (by decide) hA.top, ?_, ?_, fun i hi => ?_⟩
  · have hlow : Below w0.heap.size (wk.alloc o) w8 := (Below.refl _ _).grown h2 hA.sz (fun k hk => (hA.own.lt k hk).1)
    have hlow2 := hlow.trans ((Below.refl w0.heap.size w8).setCell (p := ⟨tb, 1, none⟩) h.tlo v8)
    exact ⟨hlow2.os.trans hA.kr.os, hlow2.tape.trans hA.kr.tape, hlow2.output.trans hA.kr.output, Nat.le_trans hA.kr.size hlow2.size, fun k hk hn => (hlow2.block k hk).trans (hA.kr.block k hk hn)⟩
  · have hlow : Below w0.heap.size (wk.alloc o) w8 := (Below.refl _ _).grown h2 hA.sz (fun k hk => (hA.own.lt k hk).1)
    have hlow2 := hlow.trans ((Below.refl w0.heap.size w8).setCell (p := ⟨tb, 1, none⟩) h.tlo v8)
    exact hA.rd.kept (hlow2.mono (by have := h.lo; omega))
  · rw [setCell_eq_setRow w8 tb 1 _ _ _ _ hbox8, setRow_heap w8 tb _ _ _ _ hbox8]; rfl
  · rw [List.length_append, List.length_singleton]
    exact own_other h1 hks (fun k e => by subst e; exact ⟨_, _, _, hbox8, by decide⟩)
  · rw [List.length_append, List.length_singleton] at hi
    have hkl : kv.length = G.length := by have := h.own.1; omega
    by_cases e : i < G.length
    · obtain ⟨y, e1, e2⟩ := hA.rows i e
      have eL : (G ++ [g]).getD i [] = G.getD i [] := by rw [List.getD_eq_getElem?_getD, List.getElem?_append_left e, ← List.getD_eq_getElem?_getD]
      rw [eL]
      exact ⟨y, by rw [List.getElem?_append_left (by omega)]; exact e1, row (by decide) (by decide) e2⟩
    · have ei : i = G.length := by omega
      subst ei
      have eL : (G ++ [g]).getD G.length [] = g := by simp [List.getD]
      rw [eL]
      exact ⟨x, by rw [← hkl]; simp, row (by decide) (by decide) (own_below hx ha)⟩
end
theorem KR.trans' {r : Nat} {a b c : World} (h : KR r a b) (k : Below a.heap.size b c) : KR r a c :=
  ⟨k.os.trans h.os, k.tape.trans h.tape, k.output.trans h.output, Nat.le_trans h.size k.size, fun i hi hn => (k.block i hi).trans (h.block i hi hn)⟩
theorem topT_bd (W : Int) : 0 ≤ topT W ∧ topT W < 18446744073709551616 := by
  unfold topT cut
  split
  · have e : (18446744073709551615 : Int) % 2 ^ W.toNat = ((18446744073709551615 % 2 ^ W.toNat : Nat) : Int) := by rw [Int.natCast_emod, Int.natCast_pow]; rfl
    have := Nat.mod_le 18446744073709551615 (2 ^ W.toNat)
    rw [e]; omega
  · omega
theorem busesP_le : ∀ {k : Nat} {acc L : List TB} {l l' : List UInt8}, busesP k acc l = .ok (L, l') → acc.length < L.length ∧ L.length ≤ acc.length + k ∧ l'.length ≤ l.length := by
  intro k
  induction k with
  | zero => intro acc L l l' h; cases h
  | succ k ih =>
    intro acc L l l' h
    cases hQ : nameP [] l with
    | error e => rw [busesP_name hQ] at h; cases h
    | ok p =>
      obtain ⟨nm, l1⟩ := p
      have hl1 := (nameP_ok hQ (by simp)).1
      cases hA : (atT acc ⟨nm.toArray⟩).isNone with
      | false => rw [busesP_at hQ hA] at h; cases h
      | true =>
        cases hM : numP 10 1 64 0 0 l1 with
        | error e => rw [busesP_num hQ hA hM] at h; cases h
        | ok q =>
          obtain ⟨⟨wd, c⟩, l2⟩ := q
          have hl2 := (numP_ok hM (by omega) (.inl rfl)).1
          by_cases hS : c = 32 ∨ c = 10
          · rw [busesP_ok hQ hA hM hS] at h
            by_cases h32 : c = 32
            · rw [if_pos h32] at h
              have := ih h
              simp at this
              omega
            · rw [if_neg h32] at h
              cases h
              simp; omega
          · rw [busesP_sep hQ hA hM hS] at h; cases h
theorem contP_nil (x : Except Nat (List Int × List UInt8)) : contP [] x = x := by cases x <;> rfl
theorem rowP_le : ∀ {ts : List Nat} {l l' : List UInt8} {g : List Int}, rowP ts l = .ok (g, l') → l'.length ≤ l.length ∧ g.length = ts.length ∧ (0 < ts.length → l'.length < l.length) := by
  intro ts
  induction ts with
  | nil => intro l l' g h; cases h; simp
  | cons t rest ih =>
    intro l l' g h
    cases hM : numP 16 0 t 0 0 l with
    | error e => rw [← contP_nil (rowP (t :: rest) l), rowP_num (g := []) rfl hM] at h; cases h
    | ok q =>
      obtain ⟨⟨n, b⟩, l2⟩ := q
      have hl2 := (numP_ok hM (by omega) (.inl rfl)).1
      rw [← contP_nil (rowP (t :: rest) l)] at h
      by_cases hS : if rest = [] then b = 10 else b = 32
      · rw [rowP_ok (g := []) rfl hM hS] at h
        cases hR : rowP rest l2 with
        | error e => rw [hR] at h; cases h
        | ok p =>
          obtain ⟨g2, l3⟩ := p
          rw [hR] at h
          cases h
          have := ih hR
          simp; omega
      · rw [rowP_sep (g := []) rfl hM hS] at h; cases h

theorem rowsP_row {ts : List Nat} {k : Nat} {acc : List (List Int)} {l : List UInt8} {e : Nat} (h0 : l ≠ []) (h : rowP ts l = .error e) : rowsP ts (k + 1) acc l = .error e := by
  simp only [rowsP, if_neg h0, h]
theorem rowsP_more {ts : List Nat} {k : Nat} {acc : List (List Int)} {l l1 : List UInt8} {g : List Int} (h0 : l ≠ []) (h : rowP ts l = .ok (g, l1)) : rowsP ts (k + 1) acc l = rowsP ts k (acc ++ [g]) l1 := by
  simp only [rowsP, if_neg h0, h]
theorem rowsP_none {ts : List Nat} {k : Nat} {acc : List (List Int)} : rowsP ts k acc [] = .ok acc := by
  cases k <;> simp [rowsP]
theorem rowsP_full {ts : List Nat} {acc : List (List Int)} {l : List UInt8} (h0 : l ≠ []) : rowsP ts 0 acc l = .error 5 := by
  simp [rowsP, h0]
/-- A table that a call has made. -/
structure TabV (w : World) (base : Nat) (va v2 : Value) (L : List TB) (G : List (List Int)) : Prop where
  bus : w.ownsRow base 69 2 va L.length (busCs L)
  rows : ∃ kv, w.ownsRow base 37 1 v2 G.length kv ∧ ∀ i, i < G.length → ∃ x, kv[i]? = some x ∧ w.ownsRow base 46 1 x (G.getD i []).length (u64s (G.getD i []))
def TableV (w0 : World) (p : List TB × List (List Int)) (e : Ending) (w' : World) : Prop := ∃ va v2, e = .returned (.agg #[va, v2]) ∧ TabV w' w0.heap.size va v2 p.1 p.2
def tableQ (l : List UInt8) : Except Nat ((List TB × List (List Int)) × List UInt8) :=
  match tableP l with
  | .error e => .error e
  | .ok p => .ok (p, [])
theorem info_tabt : (Tryd.prog.info? 25).map (fun i => (i.zero, i.size)) = some (some (.agg #[.slice none 0 0, .slice none 0 0]), 2) := by kernel_rfl
theorem tab_size : (Tryd.prog.info? 25).map (·.size) = some 2 := by kernel_rfl
theorem set2_heap {w : World} {b T : Nat} {x y : Value} {z : Nat × Nat} (h : w.heap[b]? = some (.cells #[x, y] T z)) (u v : Value) : ((w.setCell ⟨b, 0, none⟩ u).setCell ⟨b, 1, none⟩ v).heap[b]? = some (.cells #[u, v] T z) := by
  have h1 : (w.setCell ⟨b, 0, none⟩ u).heap[b]? = some (.cells #[u, y] T z) := by rw [setCell_eq_setRow w b 0 _ _ _ _ h, setRow_heap w b _ _ _ _ h]; rfl
  rw [setCell_eq_setRow _ b 1 _ _ _ _ h1, setRow_heap _ b _ _ _ _ h1]; rfl
theorem info_rowt : (Tryd.prog.info? 37).map (fun i => (i.zero, i.size, i.bytes)) = some (some (.slice none 0 0), 1, 24) := by kernel_rfl

/-- A way that has come to its end, told to the walk of a region as one that goes on. -/
theorem withDummy {P : Program} {w : World} {G : Prop} (h : G) (_ : wpAny P .any #[] (fun _ _ _ => True) 0 #[] ⟨#[], []⟩ w) : G := h
set_option maxHeartbeats 8000000 in
theorem rtable_any {w : World} {r : Nat} {l : List UInt8} (h : Rd w r l) (hll : l.length ≤ 16777216) :
    Calls Tryd.prog 95 #[.pointer (some ⟨r, 0, none⟩)] w fun e w' => PO w r (tableQ l) (TableV w) e w' := by
  obtain ⟨i0, hin, hz0, hz1, hz2⟩ := info_parts info_rowt
  have hlo := h.lt
  have hyes := Lib.hid (fun w => must_yes w)
  have hno := Lib.hid (fun w => must_no w)
  have hres : ∀ x, x = w.alloc (.cells #[.slice none 0 0, .slice none 0 0] 25) → Below w.heap.size w x ∧ w.heap.size < x.heap.size ∧ x.heap[w.heap.size]? = some (.cells #[.slice none 0 0, .slice none 0 0] 25 (0, 0)) := by
    rintro x rfl; exact ⟨(Below.refl _ _).alloc (Nat.le_refl _) _, by simp, heap_alloc_new w _⟩
  have hres := Lib.hid hres
  have hbs := Lib.hid (fun x hx => rbuses_any (h.step (hres.out x hx).1) hll)
  clear h
  cases hB : busesP 512 [] l with
  | error e =>
    have hq : Hid (tableQ l = .error e) := Lib.hid (by show _ = _; unfold tableQ tableP; rw [hB])
    rw [hB] at hbs
    go_enter Tryd.func95, Tryd.ntmps95
    go_wp2_with (go_at_call 137; (with_reducible refine (hbs.out _ rfl).mono ?_); rintro e2 w5 ⟨hk5, he⟩; obtain rfl : e2 = .panicked (WP e) := he)
    exact ⟨rfl, PO.bad ((KR.of_below (hres.out _ rfl).1).trans hk5) hq.out⟩
  | ok p =>
    obtain ⟨L, l1⟩ := p
    rw [hB] at hbs
    obtain ⟨hL1, hL2, hll1⟩ := busesP_le hB
    simp only [List.length_nil] at hL1 hL2
    have hq : Hid (∀ x, rowsP ((tops L).map Int.toNat) 4096 [] l1 = x → tableQ l = match x with | .error e => .error e | .ok R => .ok ((L, R), [])) := Lib.hid (fun x hx => by
      unfold tableQ tableP; rw [hB]; simp only [hx]; cases x <;> rfl)
    clear hB
    go_enter Tryd.func95, Tryd.ntmps95
    go_upto_region 2 with (go_at_call 137; (with_reducible refine (hbs.out _ rfl).mono ?_); rintro e2 w5 ⟨hk5, hr5, he⟩; obtain ⟨va, rfl, hrow5⟩ := he; obtain ⟨ba, bc, rfl⟩ := own_slice hrow5; have hK5 := Lib.hid hk5; have hR5 := Lib.hid hr5; have hW5 := Lib.hid hrow5; clear hk5 hr5 hrow5)
    have hR0 := hres.out _ rfl
    generalize hwA : w.alloc (.cells #[.slice none 0 0, .slice none 0 0] 25) = wA at *
    obtain ⟨hrA, hrz, hrb⟩ := hR0
    have hrA := Lib.hid hrA
    have hrb := Lib.hid hrb
    have hbox : ∀ x, x = w5.alloc (.cells #[.slice ba L.length bc, .slice none 0 0] 25) → Below w5.heap.size w5 x ∧ x.heap[w5.heap.size]? = some (.cells #[.slice ba L.length bc, .slice none 0 0] 25 (0, 0)) := by
      rintro x rfl; exact ⟨(Below.refl _ _).alloc (Nat.le_refl _) _, heap_alloc_new w5 _⟩
    generalize hwb : w5.alloc (.cells #[.slice ba L.length bc, .slice none 0 0] 25) = wb at *
    obtain ⟨hb5, hbb⟩ := hbox wb rfl
    clear hwA hbs hres hbox hwb
    have htlo : wA.heap.size ≤ w5.heap.size := hK5.out.size
    have hWb := Lib.hid (own_below hW5.out hb5)
    have hKb := Lib.hid (hK5.out.trans (KR.of_below hb5))
    have hRb := Lib.hid (hR5.out.step hb5)
    have hbb := Lib.hid hbb
    clear hb5 hW5 hK5 hR5
    generalize w5.heap.size = tb at *
    have c0 := cell_of_heap hbb.out 0 (.slice ba L.length bc) rfl
    have hbase : wA.heap.size ≤ wb.heap.size := hKb.out.size
    have hgr := Lib.hid (greatest_any (BsR.of_own hWb.out rfl (by omega)) bc hL2)
    have hts : ((tops L).map Int.toNat).length = L.length := by simp [tops]
    have hT : Hid (∀ i, i < L.length → (tops L).getD i 0 = ((((tops L).map Int.toNat).getD i 0 : Nat) : Int) ∧ ((tops L).map Int.toNat).getD i 0 < 18446744073709551616) := Lib.hid (fun i hi => by
      have hti := topT_bd (L.getD i tb0).width
      have e1 := tops_at L i hi
      have e2 : ((tops L).map Int.toNat).getD i 0 = ((tops L).getD i 0).toNat := by
        have hi2 : i < (tops L).length := by rw [tops_len]; exact hi
        simp [List.getD, hi2]
      rw [e2, e1]; omega)
    generalize (tops L).map Int.toNat = ts at *
    generalize hX : rowsP ts 4096 [] l1 = X at *
    have hq := Lib.hid (hq.out X rfl)
    have hX := Lib.hid hX
    go_upto_region 3 with (go_at_call 50; (with_reducible refine hgr.out.mono ?_); rintro e w6 ⟨rfl, ho6, hb6⟩; have hS6 : Hid (TbS wA w6 r tb L (.slice ba L.length bc) (.slice (some ⟨wb.heap.size, 0, none⟩) L.length L.length) (.slice none 0 0) [] [] l1) := Lib.hid ⟨Nat.lt_trans hlo hrz, htlo, hKb.out.trans (KR.of_below hb6), hRb.out.step hb6, own_below hWb.out hb6, own_base ho6 hbase, (hb6.block tb (Array.getElem?_eq_some_iff.1 hbb.out).1).trans hbb.out, ⟨rfl, .inl ⟨rfl, rfl⟩⟩, fun i hi => by simp at hi⟩; clear ho6 hb6)
    generalize wb.heap.size = gm at *
    clear hgr c0 hWb hKb hRb hbb
    go_loopw [] (fun wr => ∃ (v2 : Value) (G : List (List Int)) (kv : List Value) (l2 : List UInt8) (k : Nat), Hid (TbS wA wr r tb L (.slice ba L.length bc) (.slice (some ⟨gm, 0, none⟩) L.length L.length) v2 G kv l2) ∧ G.length + k = 4096 ∧ Hid (rowsP ts k G l2 = X) ∧ l2.length ≤ 16777216) (fun wr => 5000 - lenV ((wr.cell? ⟨tb, 1, none⟩).getD undef))
    case atStart => exact ⟨.slice none 0 0, [], [], l1, 4096, hS6, rfl, hX, by omega⟩
    case round =>
      clear hS6 hX
      obtain ⟨v2, G, kv, l2, k, hS, hk, hX, hl2⟩ := hrel
      obtain ⟨ra, rc, hrbx, hrc1, hrc2, -⟩ := hS.out.rd.ex
      have c0 := cell_of_heap hrbx 0 (.slice ra l2.length rc) rfl
      obtain ⟨xa, xc, rfl⟩ := own_slice hS.out.own
      obtain ⟨d0, d1⟩ := hS.out.cells
      have hKr := Lib.hid (KR.trans (KR.of_below hrA.out) hS.out.kr)
      cases l2 with
      | nil =>
        have hXX : Hid (X = .ok G) := Lib.hid (by rw [← hX.out]; exact rowsP_none)
        have hfin : Hid (tableQ l = .ok ((L, G), [])) := Lib.hid (by rw [hq.out, hXX.out])
        clear hq hXX hX
        have hrw : wr.heap[w.heap.size]? = some (.cells #[.slice none 0 0, .slice none 0 0] 25 (0, 0)) := (hS.out.kr.block _ hrz (by omega)).trans hrb.out
        have m0 := cell_of_heap hrw 0 (.slice none 0 0) rfl
        have m1 := cell_of_heap hrw 1 (.slice none 0 0) rfl
        have n0 := frozen_of_row wr w.heap.size 0 _ _ hrw
        have n1 := frozen_of_row wr w.heap.size 1 _ _ hrw
        have hend : Hid (∀ w9, w9 = (wr.setCell ⟨w.heap.size, 0, none⟩ (.slice ba L.length bc)).setCell ⟨w.heap.size, 1, none⟩ (.slice xa G.length xc) → KR r w w9 ∧ Rd w9 r [] ∧ TabV w9 w.heap.size (.slice ba L.length bc) (.slice xa G.length xc) L G ∧ w9.heap[w.heap.size]? = some (.cells #[.slice ba L.length bc, .slice xa G.length xc] 25 (0, 0))) := Lib.hid (by
          rintro w9 rfl
          have hk1 : Kept (fun k => k = w.heap.size) wr ((wr.setCell ⟨w.heap.size, 0, none⟩ (.slice ba L.length bc)).setCell ⟨w.heap.size, 1, none⟩ (.slice xa G.length xc)) := ⟨rfl, rfl, rfl, by simp, fun k _ hn => by rw [Below.heap_setCell _ _ _ _ hn, Below.heap_setCell _ _ _ _ hn]⟩
          have hb1 : Below w.heap.size wr ((wr.setCell ⟨w.heap.size, 0, none⟩ (.slice ba L.length bc)).setCell ⟨w.heap.size, 1, none⟩ (.slice xa G.length xc)) := hk1.below (fun k e => by omega) (Nat.le_trans (by omega) hS.out.sz)
          have hwz : w.heap.size ≤ wA.heap.size := by omega
          have row : ∀ {T size n : Nat} {v : Value} {xs : List Value}, T ≠ 25 → wr.ownsRow wA.heap.size T size v n xs → ((wr.setCell ⟨w.heap.size, 0, none⟩ (.slice ba L.length bc)).setCell ⟨w.heap.size, 1, none⟩ (.slice xa G.length xc)).ownsRow w.heap.size T size v n xs := fun hT hr =>
            own_base (own_other hr hk1 (fun k e => by subst e; exact ⟨_, _, _, hrw, fun e => hT e.symm⟩)) hwz
          refine ⟨hKr.out.trans' hb1, hS.out.rd.kept (hb1.mono (by omega)), ⟨row (by decide) hS.out.bus, kv, row (by decide) hS.out.own, fun i hi => by obtain ⟨x, e1, e2⟩ := hS.out.rows i hi; exact ⟨x, e1, row (by decide) e2⟩⟩, ?_⟩
          exact set2_heap hrw _ _)
        clear hrw hrbx
        go_wp2
        obtain ⟨q1, q2, q3, q4⟩ := hend.out _ rfl
        exact bodyPost_ret (v := .agg #[.slice ba L.length bc, .slice xa G.length xc]) (results_cell_row rfl _ _ _ _ _ _ _ rfl q4 Tryd.underlying25 rfl tab_size) rfl (PO.good q1 hfin.out q2 ⟨_, _, rfl, q3⟩)
      | cons ch l2 =>
        have hne : (ch :: l2) ≠ [] := List.cons_ne_nil _ _
        have glen : (0 : Int) < ((ch :: l2).length : Int) := by simp
        generalize hxl : ch :: l2 = xl at *
        clear hxl
        generalize hnl : xl.length = xn at *
        cases k with
        | zero =>
          have g1 : decide ((G.length : Int) < 4096) = false := by simp; omega
          have hXX : Hid (X = .error 5) := Lib.hid (by rw [← hX.out]; exact rowsP_full hne)
          have hfin : Hid (tableQ l = .error 5) := Lib.hid (by rw [hq.out, hXX.out])
          clear hq hXX hX hS
          generalize G.length = n at *
          go_wp2_with (first | (go_at_call 138; (with_reducible refine (hyes.out _).mono ?_); rintro e w4 ⟨rfl, rfl⟩) | (go_at_call 138; (with_reducible refine (hno.out _).mono ?_); rintro e w4 ⟨rfl, rfl⟩))
          exact ⟨rfl, PO.bad hKr.out hfin.out⟩
        | succ k =>
          have g1 : decide ((G.length : Int) < 4096) = true := by simp; omega
          have hrow := Lib.hid (rrow_any (hS.out.step ((Below.refl _ _).drew)).rd (by omega) (Row.of_own (hS.out.step ((Below.refl _ _).drew)).top (tops_len L) (by omega)) L.length hL2 (fun b off e => by
            have := (hS.out.top.lt gm rfl).1
            simp at e; omega) ts hts hT.out)
          cases hR : rowP ts xl with
          | error e =>
            have hXX : Hid (X = .error e) := Lib.hid (by rw [← hX.out]; exact rowsP_row hne hR)
            have hfin : Hid (tableQ l = .error e) := Lib.hid (by rw [hq.out, hXX.out])
            rw [hR] at hrow
            clear hq hXX hX hR
            go_upto_region 5 with (first | (go_at_call 138; (with_reducible refine (hyes.out _).mono ?_); rintro e w4 ⟨rfl, rfl⟩) | (go_at_call 138; (with_reducible refine (hno.out _).mono ?_); rintro e w4 ⟨rfl, rfl⟩))
            go_region_law (first | (go_simp; go_at_call 139; (with_reducible refine hrow.out.mono ?_); rintro e2 w7 ⟨hk7, he⟩; obtain rfl : e2 = .panicked (WP e) := he; have hbad := PO.bad (V := TableV w) (hKr.out.trans ((KR.of_below ((Below.refl _ _).drew)).trans hk7)) hfin.out; refine withDummy (P := Tryd.prog) (w := w7) ⟨rfl, hbad⟩ ?_))
            all_goals trivial
          | ok p =>
            obtain ⟨g, l3⟩ := p
            have hXX := Lib.hid ((rowsP_more (k := k) (acc := G) hne hR).symm.trans hX.out)
            obtain ⟨hl3, -, -⟩ := rowP_le hR
            rw [hR] at hrow
            clear hX hR
            have hS0 : Hid (TbS wA wr.drew r tb L (.slice ba L.length bc) (.slice (some ⟨gm, 0, none⟩) L.length L.length) (.slice xa G.length xc) G kv xl) := Lib.hid (hS.out.step ((Below.refl _ _).drew))
            have hG : ∃ n, n = G.length := ⟨_, rfl⟩
            have hbz : wA.heap.size ≤ wr.drew.heap.size := hS0.out.sz
            go_upto_region 5 with (first | (go_at_call 138; (with_reducible refine (hyes.out _).mono ?_); rintro e w4 ⟨rfl, rfl⟩) | (go_at_call 138; (with_reducible refine (hno.out _).mono ?_); rintro e w4 ⟨rfl, rfl⟩))
            go_region_law (first
              | (go_simp; go_at_call 139; (with_reducible refine hrow.out.mono ?_); rintro e2 w7 ⟨hk7, hr7, he⟩; obtain ⟨vx, rfl, hx7⟩ := he; have hS7 := Lib.hid (hS0.out.next hk7 hr7); have hx7 := Lib.hid (own_base hx7 hbz); obtain ⟨ya, yc, rfl⟩ := own_slice hx7.out; obtain ⟨f0, f1⟩ := hS7.out.cells; have hsz7 := hS7.out.sz; have hlt7 : tb < w7.heap.size := (Array.getElem?_eq_some_iff.1 hS7.out.box).1; have hne7 : tb ≠ w7.heap.size := Nat.ne_of_lt hlt7; clear hk7 hr7)
              | ((refine step_append_lies _ (by rfl) (.tmp 23) (.tmp 27) _ (by rfl) wA.heap.size 37 i0 (.slice none 0 0) 1 24 Tryd.underlying23 hin hz0 hz1 hz2 rfl (by decide) (.slice xa G.length xc) G.length kv (by rfl) (by exact hS7.out.own.alloc _) _ 1 1 [.slice ya g.length yc] (by rfl) rfl (by exact news1 _ _ _) (by intro u hu; simp at hu; subst hu; rfl) (by decide) (by unfold maxLen; omega) (by omega) (by simp; omega) _ rfl ?_; intro g8 cap8 w8 hown8 hgrow8 hat8 hlt8; obtain ⟨e0, e1, e2⟩ := hS7.out.push hx7.out hown8 hgrow8)))
            all_goals go_wp2
            all_goals
              have hlen : (G ++ [g]).length = G.length + 1 := by simp
              refine ⟨⟨_, G ++ [g], kv ++ [.slice ya g.length yc], l3, k, Lib.hid e2, by rw [hlen]; omega, hXX, by omega⟩, ?_⟩
              have e3 := e2.cells.2
              rw [e3, d1]
              simp [lenV]; omega
end Go.Proofs.YtnhpjacodhdpeaaDoor
