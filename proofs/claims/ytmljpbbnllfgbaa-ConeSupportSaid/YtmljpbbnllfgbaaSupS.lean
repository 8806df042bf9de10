/-
  ConeSupport: what is held along the way.
-/
import Derived.Test.YtmljpbbnllfgbaaSupM
namespace Go.Proofs.Ytmljpbbnllfgbaa
open Go.RowKit Go.Maps Num
set_option maxRecDepth 100000

/-- A map literal's entry. -/
theorem wpList_insert_own {H : Type} {P : Program} (w : World) {ops : Array Oper} {rest : List Oper} {o : Oper} {a : Act} {Q : Exit → Act → World → Prop}
    (hg : o.guard = none) (m x v : Operand) (t : TypeId) (hop : o.op = Op.insert t m x v)
    (k e : TypeId) (K : Keyed P k) (ht : P.underlying t = some (.map k e)) (R : Value → Option (DataW H × List MemPlace)) (b n : Nat) (D : DataW H)
    (hm : a.eval m = .map (some b)) (hown : w.ownsMap P k R b n D) (hn : n < maxLen) (key val : Value) (kl : Lit) (hx : a.eval x = key) (hv : a.eval v = val) (hkey : keyOf P k key = some kl)
    (d : DataW H) (ps : List MemPlace) (hval : R val = some (d, ps))
    (hK : ∀ w', w'.ownsMap P k R b (n + 1) (D.put kl d) → w.grownBy w' (some b) → wpList P ops Q rest (a.put o.dst undef) w') :
    wpList P ops Q (o :: rest) a w := by
  refine wpList_plain hg fun K' hK' => ?_
  obtain ⟨w', hrun, r1, r2⟩ := hown.update K ht hn hkey hval
  unfold Oper.wp
  simp [execOp, hop, hm, hx, hv, hrun, Result.andThen]
  exact hK' _ _ (hK w' r1 r2)

structure SpS (w w3 wr : World) (Bg : Nat) (pg : Pl) (G : Gr) (ra : Option Addr) (R : List Nat) (sa : Option Addr) (S : List Nat) (b1 b2 n1 n2 : Nat) (M1 M2 : Nat → Bool) : Prop where
  g : AtG w Bg wr pg G
  gb : ∀ k, pg.has k → k < w3.heap.size
  r : Row .i64 wr ra R.length (natI R)
  rb : ∀ x, ra = some x → x.block < w3.heap.size
  s : Row .i64 wr sa S.length (natI S)
  sb : ∀ x, sa = some x → x.block < w3.heap.size
  m1 : OneMap wr b1 n1 M1
  m2 : OneMap wr b2 n2 M2
  lo : w.heap.size ≤ w3.heap.size ∧ w3.heap.size ≤ b1 ∧ b1 < b2
theorem SpS.step {w w3 wr w2 : World} {Bg : Nat} {pg : Pl} {G : Gr} {ra sa : Option Addr} {R S : List Nat} {b1 b2 n1 n2 : Nat} {M1 M2 : Nat → Bool} (h : SpS w w3 wr Bg pg G ra R sa S b1 b2 n1 n2 M1 M2) (hb : Below wr.heap.size wr w2) : SpS w w3 w2 Bg pg G ra R sa S b1 b2 n1 n2 M1 M2 :=
  ⟨h.g.step hb, h.gb, h.r.step hb, h.rb, h.s.step hb, h.sb, h.m1.step hb, h.m2.step hb, h.lo⟩
theorem SpS.kept {F : Nat → Prop} {w w3 wr w2 : World} {Bg : Nat} {pg : Pl} {G : Gr} {ra sa : Option Addr} {R S : List Nat} {b1 b2 n1 n2 : Nat} {M1 M2 : Nat → Bool} (h : SpS w w3 wr Bg pg G ra R sa S b1 b2 n1 n2 M1 M2) (hk : Kept F wr w2) (hF : ∀ k, F k → w3.heap.size ≤ k ∧ k ≠ b1 ∧ k ≠ b2) : SpS w w3 w2 Bg pg G ra R sa S b1 b2 n1 n2 M1 M2 :=
  have hlo := h.lo
  ⟨⟨h.g.is.beside hk (fun k hk hp => by have := (hF k hk).1; have := h.gb k hp; omega), h.g.wf, h.g.b, h.g.out, h.g.below.trans (hk.below (fun k hk => by have := (hF k hk).1; omega) h.g.below.size), h.g.len⟩, h.gb,
    h.r.kept hk (fun x hx _ hh => by have := (hF _ hh).1; have := h.rb x hx; omega), h.rb, h.s.kept hk (fun x hx _ hh => by have := (hF _ hh).1; have := h.sb x hx; omega), h.sb,
    h.m1.block (hk.block _ h.m1.lt (fun hh => (hF _ hh).2.1 rfl)), h.m2.block (hk.block _ h.m2.lt (fun hh => (hF _ hh).2.2 rfl)), h.lo⟩
theorem SpS.put1 {w w3 wr w2 : World} {Bg : Nat} {pg : Pl} {G : Gr} {ra sa : Option Addr} {R S : List Nat} {b1 b2 n1 n2 m1' : Nat} {M1 M2 M' : Nat → Bool} (h : SpS w w3 wr Bg pg G ra R sa S b1 b2 n1 n2 M1 M2) (hg : wr.grownBy w2 (some b1)) (hm : OneMap w2 b1 m1' M') : SpS w w3 w2 Bg pg G ra R sa S b1 b2 m1' n2 M' M2 := by
  have hlo := h.lo
  have hk := kept_grown hg
  exact ⟨⟨h.g.is.beside hk (fun k hk hp => by cases hk; have := h.gb _ hp; omega), h.g.wf, h.g.b, h.g.out, h.g.below.trans (hk.below (fun k hk => by cases hk; omega) h.g.below.size), h.g.len⟩, h.gb,
    h.r.kept hk (fun x hx _ hh => by cases hh; have := h.rb x hx; omega), h.rb, h.s.kept hk (fun x hx _ hh => by cases hh; have := h.sb x hx; omega), h.sb,
    hm, h.m2.block (hk.block _ h.m2.lt (fun hh => by cases hh; omega)), h.lo⟩
theorem SpS.put2 {w w3 wr w2 : World} {Bg : Nat} {pg : Pl} {G : Gr} {ra sa : Option Addr} {R S : List Nat} {b1 b2 n1 n2 m2' : Nat} {M1 M2 M' : Nat → Bool} (h : SpS w w3 wr Bg pg G ra R sa S b1 b2 n1 n2 M1 M2) (hg : wr.grownBy w2 (some b2)) (hm : OneMap w2 b2 m2' M') : SpS w w3 w2 Bg pg G ra R sa S b1 b2 n1 m2' M1 M' := by
  have hlo := h.lo
  have hk := kept_grown hg
  exact ⟨⟨h.g.is.beside hk (fun k hk hp => by cases hk; have := h.gb _ hp; omega), h.g.wf, h.g.b, h.g.out, h.g.below.trans (hk.below (fun k hk => by cases hk; omega) h.g.below.size), h.g.len⟩, h.gb,
    h.r.kept hk (fun x hx _ hh => by cases hh; have := h.rb x hx; omega), h.rb, h.s.kept hk (fun x hx _ hh => by cases hh; have := h.sb x hx; omega), h.sb,
    h.m1.block (hk.block _ h.m1.lt (fun hh => by cases hh; omega)), hm, h.lo⟩
theorem spS_new {w w3 : World} {Bg : Nat} {pg : Pl} {G : Gr} {ra sa : Option Addr} {R S : List Nat} (hg : AtG w Bg w3 pg G) (hr : Row .i64 w3 ra R.length (natI R)) (hs : Row .i64 w3 sa S.length (natI S)) (hrb : ∀ x, ra = some x → x.block < w3.heap.size) (hsb : ∀ x, sa = some x → x.block < w3.heap.size) :
    SpS w w3 ((w3.alloc (.map #[] 0)).alloc (.map #[] 0)) Bg pg G ra R sa S w3.heap.size (w3.heap.size + 1) 0 0 (fun _ => false) (fun _ => false) := by
  have hb := bal w3 (.map #[] 0)
  have hb2 := bal (w3.alloc (.map #[] 0)) (.map #[] 0)
  have e1 : (w3.alloc (.map #[] 0)).heap.size = w3.heap.size + 1 := by simp
  have m2 := OneMap.made (w3.alloc (.map #[] 0))
  rw [e1] at m2
  exact ⟨(hg.step hb).step hb2, fun k hk => hg.is.has_lt hk, (hr.step hb).step hb2, hrb, (hs.step hb).step hb2, hsb, (OneMap.made w3).step hb2, m2, hg.below.size, Nat.le_refl _, by omega⟩
theorem natI_at (L : List Nat) (j : Nat) : (natI L).getD j 0 = ((L.getD j 0 : Nat) : Int) := by
  unfold natI
  simp only [List.getD, List.getElem?_map]
  cases L[j]? <;> rfl
end Go.Proofs.Ytmljpbbnllfgbaa
