/-
  LitOver: the plain part.
-/
import Derived.Test.YtbpiccbjnagodaaLitG
namespace Go.Proofs.Ytbpiccbjnagodaa
open Go.RowKit Bits

theorem ifV_half (y : Int) (t : Bool) : ifV y t / 2 = y / 2 := by cases t <;> simp [ifV, notV_half]
theorem ifV_turn (y : Int) (t : Bool) : turnV (ifV y t) = (turnV y != t) := by cases t <;> simp [ifV, notV_turn]
theorem ifV_ifV (y : Int) (s t : Bool) : ifV (ifV y s) t = ifV y (s != t) := by cases s <;> cases t <;> simp [ifV, notV_not]
theorem ifV_lit {y : Int} (t : Bool) (h : IsLit y) : IsLit (ifV y t) := by cases t <;> simp [ifV, notV_lit, h]
theorem overV_lit {bys : List Int} (h : ∀ i, IsLit (bys.getD i 0)) (l : Int) : IsLit (overV bys l) := ifV_lit _ (h _)
theorem overV_half (bys : List Int) (l : Int) : overV bys l / 2 = bys.getD (l / 2).toNat 0 / 2 := ifV_half _ _
theorem overV_not (bys : List Int) (l : Int) : overV bys (notV l) = notV (overV bys l) := by
  unfold overV
  rw [notV_half, notV_turn]
  show ifV _ _ = ifV (ifV _ _) true
  rw [ifV_ifV]; cases turnV l <;> rfl
/-- Brought over twice, by rows of eight. -/
theorem overV_over (f g : List Int) (l : Int) (h : (l / 2).toNat < 8) : overV g (overV f l) = overV (row 8 (fun i => overV g (f.getD i 0))) l := by
  unfold overV
  rw [row_getD _ _ _ h, ifV_half, ifV_turn, ifV_ifV]
theorem overV_word (f ws : List Int) (l : Int) (h0 : 0 ≤ l) (h : l / 2 < 8) (hf : f.getD 0 0 = 0) : wordV (overV f l) ws = wordV l (row 8 (fun i => wordV (f.getD i 0) ws)) := by
  have e : nodeW (l / 2) (row 8 (fun i => wordV (f.getD i 0) ws)) = wordV (f.getD (l / 2).toNat 0) ws := by
    unfold nodeW
    by_cases hz : l / 2 = 0
    · rw [hz, if_neg (by simp)]; show 0 = wordV (f.getD 0 0) ws; rw [hf, wordV_0]
    · rw [if_pos (by rw [row_length]; simp; omega), row_getD _ _ _ (by omega)]
  unfold overV
  cases ht : turnV l
  · show wordV (f.getD _ 0) ws = _
    rw [word_f ht, e]
  · show wordV (notV (f.getD _ 0)) ws = _
    rw [wordV_not, word_t ht, e]
theorem words_row {f : Nat → Int} {k : Nat} (h : ∀ i, 0 ≤ f i ∧ f i < 18446744073709551616) : Words (row k f) := by
  intro i
  by_cases hi : i < k
  · rw [row_getD _ _ _ hi]; exact h i
  · rw [List.getD_eq_getElem?_getD, List.getElem?_eq_none (by rw [row_length]; omega)]; simp

/-- What the law makes of a number: a literal of a node below 8. -/
def m16 (zs : List Int) (i : Nat) : Int := zs.getD i 0 % 16
theorem m16_bd (zs : List Int) (i : Nat) : 0 ≤ m16 zs i ∧ m16 zs i < 16 := by unfold m16; omega
theorem m16_lit (zs : List Int) (i : Nat) : IsLit (m16 zs i) := by unfold IsLit; have := m16_bd zs i; omega
/-- The same, the first one False. -/
def z16 (zs : List Int) (i : Nat) : Int := if i = 0 then 0 else m16 zs i
theorem z16_bd (zs : List Int) (i : Nat) : 0 ≤ z16 zs i ∧ z16 zs i < 16 := by unfold z16; have := m16_bd zs i; split <;> omega
theorem z16_lit (zs : List Int) (i : Nat) : IsLit (z16 zs i) := by unfold IsLit; have := z16_bd zs i; omega
theorem row_lit' {k : Nat} {f : Nat → Int} (h : ∀ i, IsLit (f i)) (i : Nat) : IsLit ((row k f).getD i 0) := by
  by_cases hi : i < k
  · rw [row_getD _ _ _ hi]; exact h i
  · rw [List.getD_eq_getElem?_getD, List.getElem?_eq_none (by rw [row_length]; omega)]; unfold IsLit; simp
theorem row_getD_bd {k : Nat} {f : Nat → Int} (h : ∀ i, 0 ≤ f i ∧ f i < 16) (i : Nat) : 0 ≤ (row k f).getD i 0 ∧ (row k f).getD i 0 < 16 := by
  by_cases hi : i < k
  · rw [row_getD _ _ _ hi]; exact h i
  · rw [List.getD_eq_getElem?_getD, List.getElem?_eq_none (by rw [row_length]; omega)]; simp
theorem m16_set (zs : List Int) : ((row 8 (m16 zs)).map (Value.int .u32)).set 0 (.int .u32 0) = (row 8 (z16 zs)).map (Value.int .u32) := by
  apply List.ext_getElem
  · simp [row]
  · intro i h1 h2
    simp [row, List.getElem_set, z16] at *
    by_cases e : 0 = i
    · subst e; simp
    · simp [e, show ¬ i = 0 by omega]
theorem m16_snoc (zs : List Int) (j : Nat) : (row (j + 1) (m16 zs)).map (Value.int .u32) = (row j (m16 zs)).map (Value.int .u32) ++ [.int .u32 (m16 zs j)] := by rw [row_succ, List.map_append]; rfl

/-- Literals of nodes below 8. -/
def Lit8 (l : List Int) : Prop := ∀ i, IsLit (l.getD i 0) ∧ l.getD i 0 / 2 < 8
theorem lit8_row {k : Nat} {f : Nat → Int} (h : ∀ i, IsLit (f i) ∧ f i / 2 < 8) : Lit8 (row k f) := by
  intro i
  by_cases hi : i < k
  · rw [row_getD _ _ _ hi]; exact h i
  · rw [List.getD_eq_getElem?_getD, List.getElem?_eq_none (by rw [row_length]; omega)]; unfold IsLit; simp
theorem lit8_over {f l : List Int} {n : Nat} (hf : Lit8 f) : Lit8 (row n (fun i => overV f (l.getD i 0))) :=
  lit8_row fun i => ⟨overV_lit (fun j => (hf j).1) _, by rw [overV_half]; exact (hf _).2⟩
theorem lit8_not {l : List Int} {n : Nat} (h : Lit8 l) : Lit8 (row n (fun i => notV (l.getD i 0))) :=
  lit8_row fun i => ⟨notV_lit (h i).1, by rw [notV_half]; exact (h i).2⟩

theorem over8 (a : Option Addr) (n cap : Nat) (l : List Int) (hl : Lit8 l) (hn : n ≤ 1000000) (bb bcap : Nat) (bys : List Int) (hb : Lit8 bys) (hb0 : bys.getD 0 0 = 0) (w : World) (hs : Row .u32 w a n l) (hr : Row .u32 w (some ⟨bb, 0, none⟩) 8 bys) :
    Calls Try.prog 20 #[.slice a n cap, .slice (some ⟨bb, 0, none⟩) 8 bcap] w fun e w' => ∃ g, e = .returned (.tuple #[.slice (some ⟨g, 0, none⟩) n n, .int .i64 0]) ∧ Row .u32 w' (some ⟨g, 0, none⟩) n (row n (fun i => overV bys (l.getD i 0))) ∧ Below w.heap.size w w' := by
  obtain ⟨b, off, he, hlt, hc⟩ := hr.at (by omega)
  obtain ⟨rfl, rfl⟩ : bb = b ∧ 0 = off := by simp at he; exact he
  refine (over_any a n cap l bb 0 8 bcap bys (fun i => (hl i).1) hn (by omega) (by omega) hb0 (fun i => (hb i).1) (fun i _ => (hl i).2) w hs hlt hc).mono ?_
  rintro e w' ⟨g, rfl, ho, hb⟩
  exact ⟨g, rfl, Row.of_own ho (row_length _ _) (by omega), hb⟩
theorem turn8 (a : Option Addr) (n cap : Nat) (l : List Int) (hl : Lit8 l) (hn : n ≤ 1000000) (w : World) (hs : Row .u32 w a n l) :
    Calls Try.prog 21 #[.slice a n cap] w fun e w' => ∃ g, e = .returned (.slice (some ⟨g, 0, none⟩) n n) ∧ Row .u32 w' (some ⟨g, 0, none⟩) n (row n (fun i => notV (l.getD i 0))) ∧ Below w.heap.size w w' := by
  refine (turn_any a n cap l (fun i => (hl i).1) hn w hs).mono ?_
  rintro e w' ⟨rfl, ho, hb⟩
  exact ⟨_, rfl, Row.of_own ho (row_length _ _) (by omega), hb⟩
theorem own_set {w : World} {base e size n : Nat} {v : Value} {xs : List Value} (h : w.ownsRow base e size v n xs) {a : Addr} (ha : v.ownBlock ≠ some a.block) (u : Value) : (w.setCell a u).ownsRow base e size v n xs := by
  refine ⟨h.1, ?_⟩
  rcases h.2 with h2 | ⟨g, cap, cur, rfl, hg, hh, r⟩
  · exact .inl h2
  · exact .inr ⟨g, cap, cur, rfl, hg, by rw [Below.heap_setCell _ _ _ _ (by simpa [Value.ownBlock] using ha)]; exact hh, r⟩

/-- What the law's last loop finds, place by place. -/
theorem over_fin {zs one two ws : List Int} {m i : Nat} (hi : i < m) :
    (row m (fun i => overV (row 8 (z16 two)) ((row m (fun i => overV (row 8 (z16 one)) ((row m (m16 zs)).getD i 0))).getD i 0))).getD i 0
      = (row m (fun i => overV (row 8 (fun i => overV (row 8 (z16 two)) ((row 8 (z16 one)).getD i 0))) ((row m (m16 zs)).getD i 0))).getD i 0 ∧
    (row m (fun i => overV (row 8 (z16 one)) ((row m (fun i => notV ((row m (m16 zs)).getD i 0))).getD i 0))).getD i 0
      = notV ((row m (fun i => overV (row 8 (z16 one)) ((row m (m16 zs)).getD i 0))).getD i 0) ∧
    wordV ((row m (fun i => overV (row 8 (z16 one)) ((row m (m16 zs)).getD i 0))).getD i 0) ws
      = wordV ((row m (m16 zs)).getD i 0) (row 8 (fun i => wordV ((row 8 (z16 one)).getD i 0) ws)) := by
  have hb := m16_bd zs i
  simp only [row_getD _ _ _ hi]
  refine ⟨overV_over _ _ _ (by omega), overV_not _ _, overV_word _ _ _ hb.1 (by omega) rfl⟩
end Go.Proofs.Ytbpiccbjnagodaa
