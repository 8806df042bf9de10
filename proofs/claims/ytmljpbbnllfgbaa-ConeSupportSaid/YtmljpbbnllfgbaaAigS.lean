/-
  What the calls mean, in words.
-/
import Derived.Test.YtmljpbbnllfgbaaAigH
namespace Go.Proofs.Ytmljpbbnllfgbaa
open Go.RowKit Num

def U64 (a : Int) : Prop := 0 ≤ a ∧ a < 18446744073709551616
theorem mx {m : Nat} (h : m < 2 ^ 64) : (18446744073709551615 : Int) - (m : Int) = ((2 ^ 64 - (m + 1) : Nat) : Int) := by omega
theorem U64.nat {a : Int} (h : U64 a) : ∃ m : Nat, a = m ∧ m < 2 ^ 64 := ⟨a.toNat, by have := h.1; omega, by have := h.2; have := h.1; omega⟩
theorem andN {m n : Nat} (hm : m < 2 ^ 64) (hn : n < 2 ^ 64) : bits .and .u64 (m : Int) (n : Int) = ((m &&& n : Nat) : Int) := by rw [and64 (by omega) (by omega) (by omega) (by omega)]; rfl
theorem orN {m n : Nat} (hm : m < 2 ^ 64) (hn : n < 2 ^ 64) : bits .or .u64 (m : Int) (n : Int) = ((m ||| n : Nat) : Int) := by rw [or64 (by omega) (by omega) (by omega) (by omega)]; rfl
theorem xorN {m n : Nat} (hm : m < 2 ^ 64) (hn : n < 2 ^ 64) : bits .xor .u64 (m : Int) (n : Int) = ((m ^^^ n : Nat) : Int) := by rw [xor64 (by omega) (by omega) (by omega) (by omega)]; rfl
theorem andNotN {m n : Nat} (hm : m < 2 ^ 64) (hn : n < 2 ^ 64) : bits .andNot .u64 (m : Int) (n : Int) = ((m &&& (2 ^ 64 - (n + 1)) : Nat) : Int) := by
  show IntKind.u64.wrap ((BitVec.ofInt 64 m &&& ~~~ BitVec.ofInt 64 n).toNat : Int) = _
  rw [BitVec.toNat_and, BitVec.toNat_not, of64 (by omega) (by omega), of64 (by omega) (by omega), Int.toNat_natCast, Int.toNat_natCast, show 2 ^ 64 - 1 - n = 2 ^ 64 - (n + 1) by omega]
  exact nat64 (Nat.lt_of_le_of_lt Nat.and_le_left hm)
theorem no_bit {m i : Nat} (hm : m < 2 ^ 64) (hi : ¬ i < 64) : m.testBit i = false := Nat.testBit_lt_two_pow (Nat.lt_of_lt_of_le hm (Nat.pow_le_pow_right (by omega) (by omega)))

theorem or_dm {a b : Int} (ha : U64 a) (hb : U64 b) : 18446744073709551615 - bits .and .u64 (18446744073709551615 - a) (18446744073709551615 - b) = bits .or .u64 a b := by
  obtain ⟨m, rfl, hm⟩ := ha.nat
  obtain ⟨n, rfl, hn⟩ := hb.nat
  rw [mx hm, mx hn, andN (by omega) (by omega), mx (Nat.lt_of_le_of_lt Nat.and_le_left (by omega)), orN hm hn]
  congr 1
  apply Nat.eq_of_testBit_eq
  intro i
  rw [Nat.testBit_two_pow_sub_succ (Nat.lt_of_le_of_lt Nat.and_le_left (by omega)), Nat.testBit_and, Nat.testBit_two_pow_sub_succ hm, Nat.testBit_two_pow_sub_succ hn, Nat.testBit_or]
  by_cases hi : i < 64
  · cases m.testBit i <;> cases n.testBit i <;> simp [hi]
  · simp [hi, no_bit hm hi, no_bit hn hi]
theorem xor_dm {a b : Int} (ha : U64 a) (hb : U64 b) : bits .or .u64 (bits .and .u64 a (18446744073709551615 - b)) (bits .and .u64 (18446744073709551615 - a) b) = bits .xor .u64 a b := by
  obtain ⟨m, rfl, hm⟩ := ha.nat
  obtain ⟨n, rfl, hn⟩ := hb.nat
  rw [mx hm, mx hn, andN hm (by omega), andN (by omega) hn, orN (Nat.lt_of_le_of_lt Nat.and_le_left hm) (Nat.lt_of_le_of_lt Nat.and_le_right hn), xorN hm hn]
  congr 1
  apply Nat.eq_of_testBit_eq
  intro i
  rw [Nat.testBit_or, Nat.testBit_and, Nat.testBit_and, Nat.testBit_two_pow_sub_succ hm, Nat.testBit_two_pow_sub_succ hn, Nat.testBit_xor]
  by_cases hi : i < 64
  · cases m.testBit i <;> cases n.testBit i <;> simp [hi]
  · simp [hi, no_bit hm hi, no_bit hn hi]
theorem mux_dm {c a b : Int} (hc : U64 c) (ha : U64 a) (hb : U64 b) : bits .or .u64 (bits .and .u64 c a) (bits .and .u64 (18446744073709551615 - c) b) = bits .or .u64 (bits .and .u64 c a) (bits .andNot .u64 b c) := by
  obtain ⟨k, rfl, hk⟩ := hc.nat
  obtain ⟨n, rfl, hn⟩ := hb.nat
  rw [mx hk, andN (by omega) hn, andNotN hn hk, Nat.and_comm]

theorem orG_word {G G' : Gr} {ins ws : List Int} (h : Wf G) (a b : Int) (hL : Le (orG G a b).1 G') (v : Val G' ins ws) : wordV (orG G a b).2 ws = bits .or .u64 (wordV a ws) (wordV b ws) := by
  show wordV (notV (andG G (notV a) (notV b)).2) ws = _
  rw [wordV_not, andG_word h _ _ hL v, wordV_not, wordV_not]
  exact or_dm (wordV_bd v.words a) (wordV_bd v.words b)
theorem eitherG_word {G G' : Gr} {ins ws : List Int} (h : Wf G) {a b c d : Int} (ha : There G a) (hb : There G b) (hc : There G c) (hd : There G d) (hl : G.nodes.length ≤ 9000000) (hL : Le (eitherG G a b c d).1 G') (v : Val G' ins ws) :
    wordV (eitherG G a b c d).2 ws = bits .or .u64 (bits .and .u64 (wordV a ws) (wordV b ws)) (bits .and .u64 (wordV c ws) (wordV d ws)) := by
  have g1 := andG_good h ha hb (by omega)
  have l1 := g1.len
  have g2 := andG_good g1.wf (g1.le.there hc) (g1.le.there hd) (by omega)
  have l2 := g2.len
  have g3 := orG_good g2.wf (g2.le.there g1.there) g2.there (by omega)
  unfold eitherG at hL ⊢
  rw [orG_word g2.wf _ _ hL v, andG_word g1.wf _ _ (g3.le.trans hL) v, andG_word h _ _ (g2.le.trans (g3.le.trans hL)) v]
theorem xorG_word {G G' : Gr} {ins ws : List Int} (h : Wf G) {a b : Int} (ha : There G a) (hb : There G b) (hl : G.nodes.length ≤ 9000000) (hL : Le (xorG G a b).1 G') (v : Val G' ins ws) : wordV (xorG G a b).2 ws = bits .xor .u64 (wordV a ws) (wordV b ws) := by
  unfold xorG at hL ⊢
  rw [eitherG_word h ha hb.not ha.not hb hl hL v, wordV_not, wordV_not]
  exact xor_dm (wordV_bd v.words a) (wordV_bd v.words b)
theorem muxG_word {G G' : Gr} {ins ws : List Int} (h : Wf G) {c a b : Int} (hc : There G c) (ha : There G a) (hb : There G b) (hl : G.nodes.length ≤ 9000000) (hL : Le (muxG G c a b).1 G') (v : Val G' ins ws) : wordV (muxG G c a b).2 ws = bits .or .u64 (bits .and .u64 (wordV c ws) (wordV a ws)) (bits .andNot .u64 (wordV b ws) (wordV c ws)) := by
  unfold muxG at hL ⊢
  rw [eitherG_word h hc ha hc.not hb hl hL v, wordV_not]
  exact mux_dm (wordV_bd v.words c) (wordV_bd v.words a) (wordV_bd v.words b)

/-- What two literals together mean. -/
def OpWord (T : Gr → Int → Int → Gr × Int) (o : BinOp) : Prop := ∀ (G G' : Gr) (ins ws : List Int) (a b : Int), Wf G → There G a → There G b → G.nodes.length ≤ 9000000 → Le (T G a b).1 G' → Val G' ins ws → wordV (T G a b).2 ws = bits o .u64 (wordV a ws) (wordV b ws)
theorem and_word : OpWord andG .and := fun _ _ _ _ _ _ h _ _ _ hL v => andG_word h _ _ hL v
theorem or_word : OpWord orG .or := fun _ _ _ _ _ _ h _ _ _ hL v => orG_word h _ _ hL v
theorem xor_word : OpWord xorG .xor := fun _ _ _ _ _ _ h ha hb hl hL v => xorG_word h ha hb hl hL v
/-- Words put together from the left. -/
def foldW (o : BinOp) (z : Int) (ws l : List Int) : Int := l.foldl (fun p y => bits o .u64 p (wordV y ws)) z
theorem many_word {T : Gr → Int → Int → Gr × Int} {k : Nat} {o : BinOp} (hT : OpOk T k) (hw : OpWord T o) {ins ws : List Int} :
    ∀ (r : List Int) (G G' : Gr) (x : Int), Wf G → There G x → AllThere G r → G.nodes.length + k * r.length ≤ 9000000 → Le (r.foldl (fun p y => T p.1 p.2 y) (G, x)).1 G' → Val G' ins ws →
      Le G (r.foldl (fun p y => T p.1 p.2 y) (G, x)).1 ∧ wordV (r.foldl (fun p y => T p.1 p.2 y) (G, x)).2 ws = foldW o (wordV x ws) ws r := by
  intro r
  induction r with
  | nil => intro G G' x _ _ _ _ _ _; exact ⟨Le.refl _, rfl⟩
  | cons y r ih =>
    intro G G' x hW hx hr hl hL v
    have hy : There G y := hr y (by simp)
    simp only [List.length_cons, Nat.mul_add] at hl
    have g := hT G x y hW hx hy (by omega)
    have hgl := g.len
    obtain ⟨h1, h2⟩ := ih (T G x y).1 G' (T G x y).2 g.wf g.there (fun z hz => g.le.there (hr z (by simp [hz]))) (by omega) hL v
    refine ⟨g.le.trans h1, ?_⟩
    show wordV (r.foldl (fun p y => T p.1 p.2 y) (T G x y)).2 ws = _
    rw [h2, hw G G' ins ws x y hW hx hy (by omega) (h1.trans hL) v]
    rfl
theorem manyG_word {T : Gr → Int → Int → Gr × Int} {k : Nat} {o : BinOp} (hT : OpOk T k) (hw : OpWord T o) {z W : Int} (hz : ∀ ws, wordV z ws = W) (hW0 : ∀ x, U64 x → bits o .u64 W x = x) {G G' : Gr} {ins ws : List Int} (hW : Wf G) {l : List Int} (hl : AllThere G l) (hn : G.nodes.length + k * l.length ≤ 9000000) (hL : Le (manyG T z G l).1 G') (v : Val G' ins ws) :
    wordV (manyG T z G l).2 ws = foldW o W ws l := by
  cases l with
  | nil => exact hz ws
  | cons x r =>
    have h1 : k * r.length ≤ k * (r.length + 1) := Nat.mul_le_mul_left _ (by omega)
    simp only [List.length_cons] at hn
    have := (many_word hT hw r G G' x hW (hl x (by simp)) (fun y hy => hl y (by simp [hy])) (by omega) hL v).2
    show wordV (r.foldl (fun p y => T p.1 p.2 y) (G, x)).2 ws = _
    rw [this]
    show foldW o (wordV x ws) ws r = foldW o (bits o .u64 W (wordV x ws)) ws r
    rw [hW0 _ (wordV_bd v.words x)]
theorem ones_and {x : Int} (h : U64 x) : bits .and .u64 18446744073709551615 x = x := by rw [and_comm64 (by decide) (by decide) h.1 h.2, and_ones64 h.1 h.2]
theorem zero_or {x : Int} (h : U64 x) : bits .or .u64 0 x = x := by
  obtain ⟨m, rfl, hm⟩ := h.nat
  have := orN (m := 0) (by omega) hm
  simpa using this
theorem zero_xor {x : Int} (h : U64 x) : bits .xor .u64 0 x = x := by
  obtain ⟨m, rfl, hm⟩ := h.nat
  have := xorN (m := 0) (by omega) hm
  simpa using this
theorem bits_bd {o : BinOp} (ho : o = .and ∨ o = .or ∨ o = .xor) {a b : Int} (ha : U64 a) (hb : U64 b) : U64 (bits o .u64 a b) := by
  obtain ⟨m, rfl, hm⟩ := ha.nat
  obtain ⟨n, rfl, hn⟩ := hb.nat
  rcases ho with rfl | rfl | rfl
  · rw [andN hm hn]; have := Nat.lt_of_le_of_lt (Nat.and_le_left (n := m) (m := n)) hm; exact ⟨by omega, by omega⟩
  · rw [orN hm hn]; have := Nat.or_lt_two_pow hm hn; exact ⟨by omega, by omega⟩
  · rw [xorN hm hn]; have := Nat.xor_lt_two_pow hm hn; exact ⟨by omega, by omega⟩
end Go.Proofs.Ytmljpbbnllfgbaa
