/-
  A table's text, plainly: what is written is read; what is read is so written.
  A table's text, plainly: buses and rows.
  A table's text, plainly: there and back; cut short; with a byte behind.
-/
import Derived.Test.YtnhpjacodhdpeaaDoorTrH
import Derived.Test.YtnhpjacodhdpeaaDoorTrN
namespace Go.Proofs.YtnhpjacodhdpeaaDoor
open Bits
set_option maxRecDepth 100000

/-- p is how the number v is written to the base B. -/
inductive DN (B : Nat) : Nat → List UInt8 → Prop
  | one {d : Nat} (h : d < B) : DN B d [hx d]
  | more {n d : Nat} {p : List UInt8} (hn : 0 < n) (h : d < B) (hp : DN B n p) : DN B (n * B + d) (p ++ [hx d])
theorem digP_hx : ∀ d, d < 16 → digP (hx d) = (d, true) := by decide +kernel
theorem hx_digP (c : UInt8) (h : (digP c).2 = true) : c = hx (digP c).1 := by
  have key : ∀ n, n < 256 → (digP (UInt8.ofNat n)).2 = true → UInt8.ofNat n = hx (digP (UInt8.ofNat n)).1 := by decide +kernel
  have := key c.toNat (UInt8.toNat_lt c)
  rw [UInt8.ofNat_toNat] at this
  exact this h
theorem hx_no (d : Nat) (h : d < 16) : hx d ≠ 10 ∧ hx d ≠ 32 := by
  have key : ∀ d, d < 16 → hx d ≠ 10 ∧ hx d ≠ 32 := by decide +kernel
  exact key d h
theorem DN.pos {B n : Nat} {p : List UInt8} (h : DN B n p) : 0 < p.length := by cases h <;> simp
theorem DN.no {B n : Nat} {p : List UInt8} (hB : B ≤ 16) (h : DN B n p) : ∀ c ∈ p, c ≠ 10 := by
  induction h with
  | one h => intro c hc; simp at hc; subst hc; exact (hx_no _ (by omega)).1
  | more hn h hp ih =>
    intro c hc
    rcases List.mem_append.1 hc with hc | hc
    · exact ih c hc
    · simp at hc; subst hc; exact (hx_no _ (by omega)).1
theorem DN.hex (v : Nat) : DN 16 v (hexD v) := by
  induction v using Nat.strongRecOn with
  | ind v ih =>
    by_cases h : v < 16
    · have e : hexD v = [hx v] := by unfold hexD; rw [nHex_small h]; simp [hexA, Nat.mod_eq_of_lt h]
      rw [e]; exact .one h
    · have e : hexD v = hexD (v / 16) ++ [hx (v % 16)] := by unfold hexD; rw [nHex_big h]; rfl
      have h1 := DN.more (B := 16) (n := v / 16) (d := v % 16) (Nat.div_pos (by omega) (by decide)) (Nat.mod_lt _ (by decide)) (ih (v / 16) (Nat.div_lt_self (by omega) (by decide)))
      have e2 : v / 16 * 16 + v % 16 = v := by omega
      rw [e2] at h1; rw [e]; exact h1
theorem DN.dec (v : Nat) (h : v < 100) : DN 10 v (decT v) := by
  unfold decT
  by_cases h1 : v < 10
  · rw [if_pos h1]
    have e : hx v = UInt8.ofNat (48 + v) := by unfold hx; rw [if_pos h1]
    rw [← e]; exact .one h1
  · rw [if_neg h1]
    have e1 : hx (v / 10) = UInt8.ofNat (48 + v / 10) := by unfold hx; rw [if_pos (by omega)]
    have e2 : hx (v % 10) = UInt8.ofNat (48 + v % 10) := by unfold hx; rw [if_pos (by omega)]
    have h2 := DN.more (B := 10) (n := v / 10) (d := v % 10) (by omega) (by omega) (.one (by omega))
    have e3 : v / 10 * 10 + v % 10 = v := by omega
    rw [e3] at h2
    rw [← e1, ← e2]; exact h2
/-- Only one way of writing. -/
theorem DN.uniq {B : Nat} (hB : 1 < B) : ∀ {v : Nat} {p q : List UInt8}, DN B v p → DN B v q → p = q := by
  intro v
  induction v using Nat.strongRecOn with
  | ind v ih =>
    intro p q hp hq
    have big : ∀ {n d : Nat}, 0 < n → B ≤ n * B + d := fun {n d} hn => by
      have := Nat.le_mul_of_pos_left B hn; omega
    generalize hv : v = v' at hq
    cases hp with
    | one h =>
      cases hq with
      | one h' => rw [hv]
      | @more n' d' p' hn' h' hp' => have := big (d := d') hn'; omega
    | @more n d p hn h hp =>
      cases hq with
      | one h' => have := big (d := d) hn; omega
      | @more n' d' p' hn' h' hp' =>
        have hd : d = d' := by
          have := congrArg (· % B) hv
          simpa [Nat.mul_add_mod_self_right, Nat.mod_eq_of_lt h, Nat.mod_eq_of_lt h', Nat.add_comm, Nat.add_mul_mod_self_right] using this
        subst hd
        have hn2 : n = n' := Nat.eq_of_mul_eq_mul_right (show 0 < B by omega) (by omega)
        subst hn2
        have hlt : n < n * B + d := by
          have := Nat.mul_lt_mul_of_pos_left hB hn
          omega
        rw [ih n hlt hp hp']

theorem numP_nil (B least most k n : Nat) : numP B least most k n [] = .error 4 := by rw [numP]
theorem numP_cons (B least most k n : Nat) (c : UInt8) (l : List UInt8) : numP B least most k n (c :: l) =
    if (digP c).2 = false ∨ B ≤ (digP c).1 then (if 0 < k then .ok ((n, c), l) else .error 5)
    else if (k = 0 ∨ 0 < n) ∧ ((digP c).1 ≤ most ∧ n ≤ (most - (digP c).1) / B) ∧ least ≤ n * B + (digP c).1 then numP B least most (k + 1) (n * B + (digP c).1) l
    else .error 5 := by rw [numP]
theorem numP_run {B least most : Nat} (hB : B ≤ 16) (h0 : 0 < B) (hl : least ≤ 1) {v : Nat} {p : List UInt8} (h : DN B v p) : v ≤ most → least ≤ v → ∀ l, numP B least most 0 0 (p ++ l) = numP B least most p.length v l := by
  induction h with
  | @one d h =>
    intro hm hv l
    rw [List.singleton_append, numP_cons, digP_hx d (by omega), if_neg (by simp; omega), if_pos ⟨.inl rfl, ⟨hm, Nat.zero_le _⟩, by simpa using hv⟩]
    simp
  | @more n d p hn h hp ih =>
    intro hm hv l
    have hnm : n ≤ n * B := Nat.le_mul_of_pos_right n h0
    rw [List.append_assoc, ih (by omega) (by omega), List.singleton_append, numP_cons, digP_hx d (by omega), if_neg (by simp; omega), if_pos ⟨.inr hn, ⟨by show d ≤ most; omega, (Nat.le_div_iff_mul_le h0).2 (by show n * B ≤ most - d; omega)⟩, hv⟩]
    simp
/-- A number, and a byte behind that is none of its digits. -/
theorem numP_num {B least most : Nat} (hB : B ≤ 16) (h0 : 0 < B) (hl : least ≤ 1) {v : Nat} {p : List UInt8} (h : DN B v p) (hm : v ≤ most) (hv : least ≤ v) {c : UInt8} (hc : (digP c).2 = false) (l : List UInt8) : numP B least most 0 0 (p ++ c :: l) = .ok ((v, c), l) := by
  rw [numP_run hB h0 hl h hm hv, numP_cons, if_pos (.inl hc), if_pos h.pos]
theorem numP_split {B least most : Nat} : ∀ (P Q : List UInt8) (k n : Nat) (x : Nat × UInt8) (l1 : List UInt8), numP B least most k n (P ++ Q) = .ok (x, l1) → numP B least most k n P = .error 4 ∨ ∃ P1, numP B least most k n P = .ok (x, P1) ∧ l1 = P1 ++ Q := by
  intro P
  induction P with
  | nil => intro Q k n x l1 _; exact .inl (numP_nil ..)
  | cons c P ih =>
    intro Q k n x l1 h
    rw [List.cons_append, numP_cons] at h
    rw [numP_cons]
    split at h
    · split at h
      · rename_i g1 g2
        cases h
        rw [if_pos g1, if_pos g2]; exact .inr ⟨P, rfl, rfl⟩
      · cases h
    · rename_i g1
      split at h
      · rename_i g2
        rw [if_neg g1, if_pos g2]; exact ih _ _ _ _ _ h
      · cases h
theorem numP_inv {B least most : Nat} (hB : B ≤ 16) (h0 : 0 < B) : ∀ (l : List UInt8) (k n : Nat) (pre : List UInt8) (v : Nat) (c : UInt8) (l1 : List UInt8), (k = 0 ∧ n = 0 ∧ pre = []) ∨ (0 < k ∧ DN B n pre ∧ least ≤ n ∧ n ≤ most) → numP B least most k n l = .ok ((v, c), l1) →
    ∃ p, DN B v p ∧ pre ++ l = p ++ c :: l1 ∧ least ≤ v ∧ v ≤ most := by
  intro l
  induction l with
  | nil => intro k n pre v c l1 _ h; rw [numP_nil] at h; cases h
  | cons c0 l ih =>
    intro k n pre v c l1 hi h
    rw [numP_cons] at h
    split at h
    · split at h
      · rename_i g1 g2
        cases h
        rcases hi with hi | hi
        · omega
        · exact ⟨pre, hi.2.1, rfl, hi.2.2.1, hi.2.2.2⟩
      · cases h
    · rename_i g1
      split at h
      · rename_i g2
        obtain ⟨h1, ⟨h2, h3⟩, h4⟩ := g2
        simp only [not_or, Nat.not_le] at g1
        have hd : (digP c0).2 = true := by simpa using g1.1
        have hc := hx_digP c0 hd
        generalize (digP c0).1 = d at *
        have hmost : n * B + d ≤ most := by
          have := (Nat.le_div_iff_mul_le h0).1 h3; omega
        have := ih (k + 1) (n * B + d) (pre ++ [c0]) v c l1 (.inr ⟨by omega, by
          rcases hi with ⟨-, hn, hp⟩ | ⟨hk, hdn, -⟩
          · subst hn; subst hp; rw [hc]; simpa using DN.one (B := B) g1.2
          · rw [hc]; exact .more (by omega) g1.2 hdn, h4, hmost⟩) h
        simpa using this
      · cases h

theorem spell58 : spellT ((58 : UInt8).toNat : Int) = false := by decide +kernel
theorem spell_no (c : UInt8) (h : spellT (c.toNat : Int) = true) : c ≠ 10 := by
  rintro rfl
  exact absurd h (by decide +kernel)
theorem nameP_nilF (acc : List UInt8) : nameP acc [] = .error 4 := by rw [nameP]
theorem nameP_consF (acc : List UInt8) (c : UInt8) (l : List UInt8) : nameP acc (c :: l) = if spellT c.toNat = true then (if acc.length < 33 then nameP (acc ++ [c]) l else .error 5) else if c = 58 ∧ 0 < acc.length then .ok (acc, l) else .error 5 := by rw [nameP]
theorem nameP_run : ∀ (s acc l : List UInt8), spellA s = true → acc.length + s.length ≤ 33 → 0 < acc.length + s.length → nameP acc (s ++ 58 :: l) = .ok (acc ++ s, l) := by
  intro s
  induction s with
  | nil =>
    intro acc l _ _ h
    have h58 : ¬ spellT ((58 : UInt8).toNat : Int) = true := by rw [spell58]; decide
    rw [List.nil_append, nameP_consF, if_neg h58, if_pos ⟨rfl, by simpa using h⟩]; simp
  | cons c s ih =>
    intro acc l hs h1 h2
    simp only [spellA, List.all_cons, Bool.and_eq_true] at hs
    simp only [List.length_cons] at h1
    rw [List.cons_append, nameP_consF, if_pos hs.1, if_pos (by omega), ih _ _ hs.2 (by simp; omega) (by simp; omega)]
    simp
theorem nameP_split : ∀ (P Q acc x l1 : List UInt8), nameP acc (P ++ Q) = .ok (x, l1) → nameP acc P = .error 4 ∨ ∃ P1, nameP acc P = .ok (x, P1) ∧ l1 = P1 ++ Q := by
  intro P
  induction P with
  | nil => intro Q acc x l1 _; exact .inl (nameP_nilF _)
  | cons c P ih =>
    intro Q acc x l1 h
    rw [List.cons_append, nameP_consF] at h
    rw [nameP_consF]
    split at h
    · rename_i g1
      split at h
      · rename_i g2
        rw [if_pos g1, if_pos g2]; exact ih _ _ _ _ h
      · cases h
    · rename_i g1
      split at h
      · rename_i g2
        cases h
        rw [if_neg g1, if_pos g2]; exact .inr ⟨P, rfl, rfl⟩
      · cases h
theorem nameP_inv : ∀ (l acc nm l1 : List UInt8), acc.length ≤ 33 → nameP acc l = .ok (nm, l1) → ∃ s, nm = acc ++ s ∧ l = s ++ 58 :: l1 ∧ spellA s = true ∧ nm.length ≤ 33 ∧ 0 < nm.length := by
  intro l
  induction l with
  | nil => intro acc nm l1 _ h; rw [nameP_nilF] at h; cases h
  | cons c l ih =>
    intro acc nm l1 ha h
    rw [nameP_consF] at h
    split at h
    · rename_i g1
      split at h
      · rename_i g2
        obtain ⟨s, h1, h2, h3, h4, h5⟩ := ih _ _ _ (by simp; omega) h
        refine ⟨c :: s, by rw [h1]; simp, by rw [h2]; rfl, ?_, h4, h5⟩
        unfold spellA at h3 ⊢
        rw [List.all_cons, h3, g1]; rfl
      · cases h
    · split at h
      · rename_i g2
        cases h
        obtain ⟨rfl, g3⟩ := g2
        exact ⟨[], by simp, rfl, rfl, ha, g3⟩
      · cases h
end Go.Proofs.YtnhpjacodhdpeaaDoor

namespace Go.Proofs.YtnhpjacodhdpeaaDoor
open Bits
set_option maxRecDepth 100000

theorem lineT_one (x : List UInt8) : lineT [x] = x ++ [10] := by simp [lineT, wordsT]
theorem lineT_cons (x y : List UInt8) (ws : List (List UInt8)) : lineT (x :: y :: ws) = x ++ 32 :: lineT (y :: ws) := by
  have h : wordsT (y :: ws) ≠ [] := by simp [wordsT]
  have e : wordsT (x :: y :: ws) = (x ++ [32]) ++ wordsT (y :: ws) := rfl
  unfold lineT
  rw [e, List.dropLast_append_of_ne_nil h]
  simp
theorem TB.eq_of {B : TB} : (⟨⟨B.name.data.toList.toArray⟩, B.width⟩ : TB) = B := by
  obtain ⟨⟨d⟩, w⟩ := B
  show (⟨⟨d.toList.toArray⟩, w⟩ : TB) = ⟨⟨d⟩, w⟩
  rw [Array.toArray_toList]

/-- What a bus must be behind these. -/
def okOne (acc : List TB) (B : TB) : Prop := nameT B.name = true ∧ wideT B.width = true ∧ atT acc B.name = none
def okL : List TB → List TB → Prop
  | _, [] => True
  | acc, B :: L => okOne acc B ∧ okL (acc ++ [B]) L

theorem okOne.wide {acc : List TB} {B : TB} (h : okOne acc B) : 1 ≤ B.width ∧ B.width ≤ 64 := by
  have := h.2.1
  simpa [wideT] using this
theorem okOne.spell {acc : List TB} {B : TB} (h : okOne acc B) : spellA B.name.data.toList = true ∧ B.name.data.toList.length ≤ 33 ∧ 0 < B.name.data.toList.length := by
  have := h.1
  simp only [nameT, Bool.and_eq_true, decide_eq_true_eq] at this
  have e : B.name.size = B.name.data.toList.length := rfl
  refine ⟨this.2, ?_, ?_⟩ <;> omega
theorem digP_sep {c : UInt8} (h : c = 32 ∨ c = 10) : (digP c).2 = false := by rcases h with rfl | rfl <;> decide
theorem busP_run {acc : List TB} {B : TB} (h : okOne acc B) {c : UInt8} (hc : c = 32 ∨ c = 10) (l : List UInt8) : busP acc (busW B ++ c :: l) = .ok ((B, c), l) := by
  obtain ⟨s1, s2, s3⟩ := h.spell
  obtain ⟨w1, w2⟩ := h.wide
  have e1 : busW B ++ c :: l = B.name.data.toList ++ 58 :: (decT B.width.toNat ++ c :: l) := by unfold busW; simp
  have e2 : nameP [] (B.name.data.toList ++ 58 :: (decT B.width.toNat ++ c :: l)) = .ok (B.name.data.toList, decT B.width.toNat ++ c :: l) := by
    have := nameP_run B.name.data.toList [] (decT B.width.toNat ++ c :: l) s1 (by simpa using s2) (by simpa using s3)
    simpa using this
  have e3 := numP_num (B := 10) (least := 1) (most := 64) (by decide) (by decide) (by decide) (DN.dec B.width.toNat (by omega)) (by omega) (by omega) (digP_sep hc) l
  have e4 : atT acc ⟨B.name.data.toList.toArray⟩ = none := by simpa using h.2.2
  unfold busP
  rw [e1, e2]
  simp only [e4, Option.isNone_none, Bool.true_eq_false, if_false, e3, if_pos hc]
  have e5 : ((B.width.toNat : Nat) : Int) = B.width := by omega
  rw [e5, TB.eq_of]
theorem busP_split {acc : List TB} (P Q : List UInt8) (x : TB × UInt8) (l1 : List UInt8) (h : busP acc (P ++ Q) = .ok (x, l1)) : busP acc P = .error 4 ∨ ∃ P1, busP acc P = .ok (x, P1) ∧ l1 = P1 ++ Q := by
  unfold busP at h ⊢
  cases hn : nameP [] (P ++ Q) with
  | error e => rw [hn] at h; cases h
  | ok y =>
    obtain ⟨nm, l2⟩ := y
    rw [hn] at h
    rcases nameP_split P Q [] nm l2 hn with h1 | ⟨P1, h1, rfl⟩
    · rw [h1]; exact .inl rfl
    · rw [h1]
      simp only at h ⊢
      split at h
      · cases h
      · rename_i g1
        rw [if_neg g1]
        cases hm : numP 10 1 64 0 0 (P1 ++ Q) with
        | error e => rw [hm] at h; cases h
        | ok z =>
          obtain ⟨⟨w, b⟩, l3⟩ := z
          rw [hm] at h
          rcases numP_split P1 Q 0 0 (w, b) l3 hm with h2 | ⟨P2, h2, rfl⟩
          · rw [h2]; exact .inl rfl
          · rw [h2]
            simp only at h ⊢
            split at h
            · rename_i g2
              cases h
              rw [if_pos g2]; exact .inr ⟨P2, rfl, rfl⟩
            · cases h
theorem busP_inv {acc : List TB} {l : List UInt8} {B : TB} {c : UInt8} {l1 : List UInt8} (h : busP acc l = .ok ((B, c), l1)) : okOne acc B ∧ l = busW B ++ c :: l1 ∧ (c = 32 ∨ c = 10) := by
  unfold busP at h
  cases hn : nameP [] l with
  | error e => rw [hn] at h; cases h
  | ok y =>
    obtain ⟨nm, l2⟩ := y
    rw [hn] at h
    obtain ⟨s, h1, h2, h3, h4, h5⟩ := nameP_inv l [] nm l2 (by simp) hn
    simp only [List.nil_append] at h1
    subst h1
    simp only at h
    split at h
    · cases h
    · rename_i g1
      cases hm : numP 10 1 64 0 0 l2 with
      | error e => rw [hm] at h; cases h
      | ok z =>
        obtain ⟨⟨w, b⟩, l3⟩ := z
        rw [hm] at h
        obtain ⟨p, k1, k2, k3, k4⟩ := numP_inv (by decide) (by decide) l2 0 0 [] w b l3 (.inl ⟨rfl, rfl, rfl⟩) hm
        simp only at h
        split at h
        · rename_i g2
          cases h
          have hp := DN.uniq (by decide) k1 (DN.dec w (by omega))
          refine ⟨⟨?_, by simp [wideT]; omega, by simpa [Option.isNone_iff_eq_none] using g1⟩, ?_, g2⟩
          · have e : ByteArray.size ⟨nm.toArray⟩ = nm.length := by simp [ByteArray.size]
            simp only [nameT, e, Bool.and_eq_true, decide_eq_true_eq]
            exact ⟨⟨h5, h4⟩, h3⟩
          · rw [h2]
            simp only [List.nil_append] at k2
            rw [k2, hp]
            unfold busW
            simp
        · cases h

theorem headT_one (B : TB) : headT [B] = busW B ++ [10] := lineT_one _
theorem headT_cons (B C : TB) (L : List TB) : headT (B :: C :: L) = busW B ++ 32 :: headT (C :: L) := lineT_cons _ _ _
theorem busesP_run : ∀ (L : List TB) (k : Nat) (acc : List TB) (l : List UInt8), L ≠ [] → L.length ≤ k → okL acc L → busesP k acc (headT L ++ l) = .ok (acc ++ L, l) := by
  intro L
  induction L with
  | nil => intro k acc l h; exact absurd rfl h
  | cons B L ih =>
    intro k acc l _ hk ho
    cases k with
    | zero => simp at hk
    | succ k =>
      cases L with
      | nil =>
        rw [headT_one, List.append_assoc, List.singleton_append]
        unfold busesP
        rw [busP_run ho.1 (.inr rfl)]
        simp
      | cons C L =>
        rw [headT_cons, List.append_assoc, List.cons_append]
        unfold busesP
        rw [busP_run ho.1 (.inl rfl)]
        simp only [if_true]
        rw [ih k (acc ++ [B]) l (by simp) (by simpa using hk) ho.2]
        simp
theorem busesP_split : ∀ (k : Nat) (acc : List TB) (P Q : List UInt8) (x : List TB) (l1 : List UInt8), busesP k acc (P ++ Q) = .ok (x, l1) → busesP k acc P = .error 4 ∨ ∃ P1, busesP k acc P = .ok (x, P1) ∧ l1 = P1 ++ Q := by
  intro k
  induction k with
  | zero => intro acc P Q x l1 h; unfold busesP at h; cases h
  | succ k ih =>
    intro acc P Q x l1 h
    unfold busesP at h ⊢
    cases hb : busP acc (P ++ Q) with
    | error e => rw [hb] at h; cases h
    | ok y =>
      obtain ⟨⟨B, c⟩, l2⟩ := y
      rw [hb] at h
      rcases busP_split P Q (B, c) l2 hb with h1 | ⟨P1, h1, rfl⟩
      · rw [h1]; exact .inl rfl
      · rw [h1]
        simp only at h ⊢
        split at h
        · rename_i g
          rw [if_pos g]; exact ih _ _ _ _ _ h
        · rename_i g
          cases h
          rw [if_neg g]; exact .inr ⟨P1, rfl, rfl⟩
theorem busesP_inv : ∀ (k : Nat) (acc : List TB) (l : List UInt8) (L : List TB) (l1 : List UInt8), busesP k acc l = .ok (L, l1) → ∃ L2, L = acc ++ L2 ∧ L2 ≠ [] ∧ L2.length ≤ k ∧ okL acc L2 ∧ l = headT L2 ++ l1 := by
  intro k
  induction k with
  | zero => intro acc l L l1 h; unfold busesP at h; cases h
  | succ k ih =>
    intro acc l L l1 h
    unfold busesP at h
    cases hb : busP acc l with
    | error e => rw [hb] at h; cases h
    | ok y =>
      obtain ⟨⟨B, c⟩, l2⟩ := y
      rw [hb] at h
      obtain ⟨h1, h2, h3⟩ := busP_inv hb
      simp only at h
      split at h
      · rename_i g
        subst g
        obtain ⟨L2, g1, g2, g3, g4, g5⟩ := ih _ _ _ _ h
        obtain ⟨C, L3, rfl⟩ := List.exists_cons_of_ne_nil g2
        refine ⟨B :: C :: L3, by rw [g1]; simp, by simp, by simpa using g3, ⟨h1, g4⟩, ?_⟩
        rw [h2, g5, headT_cons]; simp
      · rename_i g
        cases h
        have hc : c = 10 := by rcases h3 with h3 | h3; exact absurd h3 g; exact h3
        subst hc
        refine ⟨[B], rfl, by simp, by simp, ⟨h1, trivial⟩, ?_⟩
        rw [h2, headT_one]; simp

theorem rowT_one (z : Int) : rowT [z] = numW z ++ [10] := lineT_one _
theorem rowT_cons (z y : Int) (r : List Int) : rowT (z :: y :: r) = numW z ++ 32 :: rowT (y :: r) := lineT_cons _ _ _
/-- A row of numbers below these. -/
def fitP : List Nat → List Int → Prop
  | [], [] => True
  | t :: ts, z :: r => 0 ≤ z ∧ z.toNat ≤ t ∧ fitP ts r
  | _, _ => False
theorem rowP_nil (l : List UInt8) : rowP [] l = .ok ([], l) := rfl
theorem rowP_cons (t : Nat) (ts : List Nat) (l : List UInt8) : rowP (t :: ts) l = match numP 16 0 t 0 0 l with
    | .error e => .error e
    | .ok ((n, b), l1) =>
      if (if ts = [] then b = 10 else b = 32) then
        match rowP ts l1 with
        | .error e => .error e
        | .ok (r, l2) => .ok ((n : Int) :: r, l2)
      else .error 5 := by
  conv => lhs; unfold rowP
  rfl
theorem rowP_run : ∀ (ts : List Nat) (r : List Int) (l : List UInt8), ts ≠ [] → fitP ts r → rowP ts (rowT r ++ l) = .ok (r, l) := by
  intro ts
  induction ts with
  | nil => intro r l h; exact absurd rfl h
  | cons t ts ih =>
    intro r l _ hf
    cases r with
    | nil => exact hf.elim
    | cons z r =>
      obtain ⟨h0, h1, h2⟩ := hf
      have e5 : ((z.toNat : Nat) : Int) = z := by omega
      cases ts with
      | nil =>
        cases r with
        | cons _ _ => exact h2.elim
        | nil =>
          rw [rowT_one, List.append_assoc, List.singleton_append, rowP_cons]
          unfold numW
          rw [numP_num (by decide) (by decide) (by decide) (DN.hex z.toNat) h1 (Nat.zero_le _) (digP_sep (.inr rfl))]
          simp [rowP_nil, e5]
      | cons s ts =>
        cases r with
        | nil => exact h2.elim
        | cons y r =>
          rw [rowT_cons, List.append_assoc, List.cons_append, rowP_cons]
          unfold numW
          rw [numP_num (by decide) (by decide) (by decide) (DN.hex z.toNat) h1 (Nat.zero_le _) (digP_sep (.inl rfl))]
          simp only [List.cons_ne_nil, if_false, if_true]
          rw [ih _ l (by simp) h2]
          simp [e5]
theorem rowP_split : ∀ (ts : List Nat) (P Q : List UInt8) (x : List Int) (l1 : List UInt8), rowP ts (P ++ Q) = .ok (x, l1) → rowP ts P = .error 4 ∨ ∃ P1, rowP ts P = .ok (x, P1) ∧ l1 = P1 ++ Q := by
  intro ts
  induction ts with
  | nil => intro P Q x l1 h; rw [rowP_nil] at h ⊢; cases h; exact .inr ⟨P, rfl, rfl⟩
  | cons t ts ih =>
    intro P Q x l1 h
    rw [rowP_cons] at h ⊢
    cases hm : numP 16 0 t 0 0 (P ++ Q) with
    | error e => rw [hm] at h; cases h
    | ok z =>
      obtain ⟨⟨w, b⟩, l3⟩ := z
      rw [hm] at h
      rcases numP_split P Q 0 0 (w, b) l3 hm with h2 | ⟨P2, h2, rfl⟩
      · rw [h2]; exact .inl rfl
      · rw [h2]
        simp only at h ⊢
        by_cases g2 : (if ts = [] then b = 10 else b = 32)
        · rw [if_pos g2] at h ⊢
          cases hr : rowP ts (P2 ++ Q) with
          | error e => rw [hr] at h; cases h
          | ok y =>
            obtain ⟨r, l4⟩ := y
            rw [hr] at h
            rcases ih P2 Q r l4 hr with h3 | ⟨P3, h3, rfl⟩
            · rw [h3]; exact .inl rfl
            · rw [h3]; cases h; exact .inr ⟨P3, rfl, rfl⟩
        · rw [if_neg g2] at h; cases h
theorem rowP_inv : ∀ (ts : List Nat) (l : List UInt8) (r : List Int) (l1 : List UInt8), ts ≠ [] → rowP ts l = .ok (r, l1) → fitP ts r ∧ l = rowT r ++ l1 := by
  intro ts
  induction ts with
  | nil => intro l r l1 h; exact absurd rfl h
  | cons t ts ih =>
    intro l r l1 _ h
    rw [rowP_cons] at h
    cases hm : numP 16 0 t 0 0 l with
    | error e => rw [hm] at h; cases h
    | ok z =>
      obtain ⟨⟨w, b⟩, l3⟩ := z
      rw [hm] at h
      obtain ⟨p, k1, k2, -, k4⟩ := numP_inv (by decide) (by decide) l 0 0 [] w b l3 (.inl ⟨rfl, rfl, rfl⟩) hm
      have hp := DN.uniq (by decide) k1 (DN.hex w)
      simp only [List.nil_append] at k2
      simp only at h
      by_cases g2 : (if ts = [] then b = 10 else b = 32)
      · rw [if_pos g2] at h
        cases hr : rowP ts l3 with
        | error e => rw [hr] at h; cases h
        | ok y =>
          obtain ⟨r', l4⟩ := y
          rw [hr] at h
          cases h
          have e : numW ((w : Nat) : Int) = p := by rw [hp]; rfl
          cases ts with
          | nil =>
            rw [rowP_nil] at hr
            cases hr
            simp only [if_true] at g2
            subst g2
            refine ⟨⟨by omega, by simpa using k4, trivial⟩, ?_⟩
            rw [rowT_one, e, k2]; simp
          | cons s ts =>
            obtain ⟨q1, q2⟩ := ih l3 r' l1 (by simp) hr
            simp only [List.cons_ne_nil, if_false] at g2
            subst g2
            cases r' with
            | nil => exact q1.elim
            | cons y r' =>
              refine ⟨⟨by omega, by simpa using k4, q1⟩, ?_⟩
              rw [rowT_cons, e, k2, q2]; simp
      · rw [if_neg g2] at h; cases h
theorem rowT_ne (r : List Int) : rowT r ≠ [] := by simp [rowT, lineT]
theorem rowsP_step (ts : List Nat) (k : Nat) (acc : List (List Int)) (l : List UInt8) : rowsP ts (k + 1) acc l = if l = [] then .ok acc else
    match rowP ts l with
    | .error e => .error e
    | .ok (r, l1) => rowsP ts k (acc ++ [r]) l1 := by
  conv => lhs; unfold rowsP
  rfl
theorem rowsP_nil (ts : List Nat) (k : Nat) (acc : List (List Int)) : rowsP ts k acc [] = .ok acc := by
  cases k with
  | zero => simp [rowsP]
  | succ k => rw [rowsP_step, if_pos rfl]
theorem rowsP_run (ts : List Nat) (hts : ts ≠ []) : ∀ (R : List (List Int)) (k : Nat) (acc : List (List Int)) (l : List UInt8), (∀ r ∈ R, fitP ts r) → rowsP ts (R.length + k) acc (R.flatMap rowT ++ l) = rowsP ts k (acc ++ R) l := by
  intro R
  induction R with
  | nil => intro k acc l _; simp
  | cons r R ih =>
    intro k acc l h
    have e : (r :: R).length + k = (R.length + k) + 1 := by simp; omega
    rw [e, rowsP_step, if_neg (by simp [rowT_ne]), List.flatMap_cons, List.append_assoc, rowP_run ts r _ hts (h r (by simp))]
    simp only
    rw [ih k _ l (fun x hx => h x (by simp [hx]))]
    simp
theorem rowsP_inv (ts : List Nat) (hts : ts ≠ []) : ∀ (k : Nat) (acc : List (List Int)) (l : List UInt8) (R : List (List Int)), rowsP ts k acc l = .ok R → ∃ R2, R = acc ++ R2 ∧ R2.length ≤ k ∧ (∀ r ∈ R2, fitP ts r) ∧ l = R2.flatMap rowT := by
  intro k
  induction k with
  | zero =>
    intro acc l R h
    simp only [rowsP] at h
    split at h
    · rename_i g; cases h; exact ⟨[], by simp, by simp, by simp, by simpa using g⟩
    · cases h
  | succ k ih =>
    intro acc l R h
    rw [rowsP_step] at h
    split at h
    · rename_i g; cases h; exact ⟨[], by simp, by simp, by simp, by simpa using g⟩
    · cases hr : rowP ts l with
      | error e => rw [hr] at h; cases h
      | ok y =>
        obtain ⟨r, l1⟩ := y
        rw [hr] at h
        obtain ⟨q1, q2⟩ := rowP_inv ts l r l1 hts hr
        obtain ⟨R2, g1, g2, g3, g4⟩ := ih _ _ _ h
        refine ⟨r :: R2, by rw [g1]; simp, by simpa using g2, ?_, by rw [q2, g4]; simp⟩
        intro x hx
        rcases List.mem_cons.1 hx with rfl | hx
        · exact q1
        · exact g3 x hx
end Go.Proofs.YtnhpjacodhdpeaaDoor

namespace Go.Proofs.YtnhpjacodhdpeaaDoor
open Bits
set_option maxRecDepth 100000

theorem okL_iff : ∀ (L acc : List TB), okL acc L ↔ ∀ i, i < L.length → okOne (acc ++ L.take i) (L.getD i tb0) := by
  intro L
  induction L with
  | nil => intro acc; simp [okL]
  | cons B L ih =>
    intro acc
    unfold okL
    rw [ih]
    constructor
    · rintro ⟨h1, h2⟩ i hi
      cases i with
      | zero => simpa using h1
      | succ i => have := h2 i (by simpa using hi); simpa using this
    · intro h
      refine ⟨by simpa using h 0 (by simp), fun i hi => ?_⟩
      have := h (i + 1) (by simpa using hi)
      simpa using this
theorem busesT_iff (L : List TB) : busesT L = true ↔ L ≠ [] ∧ L.length ≤ 512 ∧ okL [] L := by
  unfold busesT
  rw [okL_iff]
  constructor
  · intro h
    simp only [Bool.and_eq_true, decide_eq_true_eq] at h
    obtain ⟨⟨h1, h2⟩, h3⟩ := h
    refine ⟨by intro e; subst e; simp at h1, h2, fun i hi => ?_⟩
    have := range_of h3 i hi
    simp only [busT, Bool.and_eq_true] at this
    exact ⟨this.1.1, this.1.2, by simpa [Option.isNone_iff_eq_none] using this.2⟩
  · rintro ⟨h1, h2, h3⟩
    have h0 : 1 ≤ L.length := by
      cases L with
      | nil => exact absurd rfl h1
      | cons _ _ => simp
    simp only [Bool.and_eq_true, decide_eq_true_eq]
    refine ⟨⟨h0, h2⟩, range_all fun i hi => ?_⟩
    obtain ⟨g1, g2, g3⟩ := h3 i hi
    simp only [List.nil_append] at g3
    simp only [busT, g1, g2, g3, Option.isNone_none, Bool.and_self]
theorem fitP_iff : ∀ (m : List Int) (r : List Int), (∀ t ∈ m, 0 ≤ t) → (fitP (m.map Int.toNat) r ↔ (fitsL r m = true ∧ ∀ z ∈ r, 0 ≤ z)) := by
  intro m
  induction m with
  | nil =>
    intro r _
    cases r with
    | nil => simp [fitP, fitsL]
    | cons z r => simp [fitP, fitsL]
  | cons t m ih =>
    intro r hm
    cases r with
    | nil => simp [fitP, fitsL]
    | cons z r =>
      have h0 : (0 : Int) ≤ t := hm t (by simp)
      have := ih r (fun x hx => hm x (by simp [hx]))
      simp only [List.map_cons, fitP]
      rw [this]
      unfold fitsL
      simp only [Bool.and_eq_true, decide_eq_true_eq, List.length_cons, Nat.add_right_cancel_iff]
      constructor
      · rintro ⟨g0, g1, ⟨g2, g3⟩, g4⟩
        refine ⟨⟨g2, range_all fun i hi => ?_⟩, ?_⟩
        · cases i with
          | zero => simp; omega
          | succ i => have := range_of g3 i (by omega); simpa using this
        · intro x hx
          rcases List.mem_cons.1 hx with rfl | hx
          · exact g0
          · exact g4 x hx
      · rintro ⟨⟨g2, g3⟩, g4⟩
        refine ⟨g4 z (by simp), ?_, ⟨g2, range_all fun i hi => ?_⟩, fun x hx => g4 x (by simp [hx])⟩
        · have := range_of g3 0 (by omega)
          simp at this
          omega
        · have := range_of g3 (i + 1) (by omega)
          simpa using this
theorem tops_nn (L : List TB) : ∀ t ∈ tops L, 0 ≤ t := by
  intro t ht
  obtain ⟨b, -, rfl⟩ := List.mem_map.1 ht
  exact (topT_bd b.width).1
/-- All rows are numbers. -/
def NN (R : List (List Int)) : Prop := ∀ r ∈ R, ∀ z ∈ r, 0 ≤ z
theorem mayT_iff (L : List TB) (R : List (List Int)) : (mayT L R = true ∧ NN R) ↔ (L ≠ [] ∧ L.length ≤ 512 ∧ okL [] L) ∧ R.length ≤ 4096 ∧ ∀ r ∈ R, fitP ((tops L).map Int.toNat) r := by
  unfold mayT NN
  simp only [Bool.and_eq_true, decide_eq_true_eq, busesT_iff]
  constructor
  · rintro ⟨⟨⟨h1, h2⟩, h3⟩, h4⟩
    refine ⟨h1, h2, fun r hr => (fitP_iff _ _ (tops_nn L)).2 ⟨?_, h4 r hr⟩⟩
    obtain ⟨i, hi, rfl⟩ := List.getElem_of_mem hr
    have := range_of h3 i hi
    simpa [List.getD, hi] using this
  · rintro ⟨h1, h2, h3⟩
    refine ⟨⟨⟨h1, h2⟩, range_all fun i hi => ?_⟩, fun r hr => ((fitP_iff _ _ (tops_nn L)).1 (h3 r hr)).2⟩
    have := ((fitP_iff _ _ (tops_nn L)).1 (h3 _ (List.getElem_mem hi))).1
    simpa [List.getD, hi] using this
theorem tops_ne {L : List TB} (h : L ≠ []) : (tops L).map Int.toNat ≠ [] := by
  simp [tops, h]

theorem tableP_run {L : List TB} {R : List (List Int)} (h : mayT L R = true) (hn : NN R) (Q : List UInt8) : tableP (putT L R ++ Q) = match rowsP ((tops L).map Int.toNat) (4096 - R.length) R Q with
    | .error e => .error e
    | .ok R => .ok (L, R) := by
  obtain ⟨⟨h1, h2, h3⟩, h4, h5⟩ := (mayT_iff L R).1 ⟨h, hn⟩
  unfold tableP putT
  rw [List.append_assoc, busesP_run L 512 [] _ h1 h2 h3]
  simp only [List.nil_append]
  have e : 4096 = R.length + (4096 - R.length) := by omega
  rw [show rowsP ((tops L).map Int.toNat) 4096 [] (R.flatMap rowT ++ Q) = rowsP ((tops L).map Int.toNat) (R.length + (4096 - R.length)) [] (R.flatMap rowT ++ Q) from congrArg (fun k => rowsP ((tops L).map Int.toNat) k [] (R.flatMap rowT ++ Q)) e, rowsP_run _ (tops_ne h1) R _ [] Q h5]
  rfl
/-- A table is read as it was. -/
theorem tableP_put {L : List TB} {R : List (List Int)} (h : mayT L R = true) (hn : NN R) : tableP (putT L R) = .ok (L, R) := by
  have := tableP_run h hn []
  rw [List.append_nil, rowsP_nil] at this
  exact this
/-- With a byte behind that no number begins with. -/
theorem tableP_dash {L : List TB} {R : List (List Int)} (h : mayT L R = true) (hn : NN R) : tableP (putT L R ++ [45]) = .error 5 := by
  rw [tableP_run h hn]
  obtain ⟨⟨h1, h2, h3⟩, h4, h5⟩ := (mayT_iff L R).1 ⟨h, hn⟩
  obtain ⟨t, ts, e⟩ := List.exists_cons_of_ne_nil (tops_ne h1)
  rw [e]
  cases hk : 4096 - R.length with
  | zero => simp [rowsP]
  | succ k =>
    rw [rowsP_step, if_neg (by simp), rowP_cons, numP_cons, if_pos (.inl (by decide)), if_neg (by decide)]
/-- What is read is so written. -/
theorem tableP_inv {l : List UInt8} {L : List TB} {R : List (List Int)} (h : tableP l = .ok (L, R)) : mayT L R = true ∧ NN R ∧ putT L R = l := by
  unfold tableP at h
  cases hb : busesP 512 [] l with
  | error e => rw [hb] at h; cases h
  | ok y =>
    obtain ⟨L', l1⟩ := y
    rw [hb] at h
    obtain ⟨L2, g1, g2, g3, g4, g5⟩ := busesP_inv 512 [] l L' l1 hb
    simp only [List.nil_append] at g1
    subst g1
    simp only at h
    cases hr : rowsP ((tops L').map Int.toNat) 4096 [] l1 with
    | error e => rw [hr] at h; cases h
    | ok R' =>
      rw [hr] at h
      cases h
      obtain ⟨R2, q1, q2, q3, q4⟩ := rowsP_inv _ (tops_ne g2) 4096 [] l1 R hr
      simp only [List.nil_append] at q1
      subst q1
      have := (mayT_iff L R).2 ⟨⟨g2, g3, g4⟩, q2, q3⟩
      exact ⟨this.1, this.2, by unfold putT; rw [g5, q4]⟩

/-- Where a text of lines is cut. -/
theorem lines_cut : ∀ (ls : List (List UInt8)), (∀ q ∈ ls, ∃ p, q = p ++ [10] ∧ ∀ c ∈ p, c ≠ 10) → ∀ k, ∃ j Q, j ≤ ls.length ∧ ls.flatten.take k = (ls.take j).flatten ++ Q ∧ (∀ c ∈ Q, c ≠ 10) ∧ (Q = [] ∨ ∃ Q2, Q2 ≠ [] ∧ ls[j]? = some (Q ++ Q2)) ∧ (j = 0 → Q = [] → k = 0 ∨ ls = []) := by
  intro ls
  induction ls with
  | nil => intro _ k; exact ⟨0, [], by simp, by simp, by simp, .inl rfl, fun _ _ => .inr rfl⟩
  | cons q ls ih =>
    intro h k
    obtain ⟨p, hp, hno⟩ := h q (by simp)
    have hql : q.length = p.length + 1 := by rw [hp]; simp
    by_cases hk : k < q.length
    · refine ⟨0, q.take k, by simp, ?_, ?_, ?_, ?_⟩
      · rw [List.flatten_cons, List.take_append_of_le_length (by omega)]; simp
      · intro c hc
        rw [hp, List.take_append_of_le_length (by omega)] at hc
        exact hno c (List.mem_of_mem_take hc)
      · refine .inr ⟨q.drop k, ?_, by simp⟩
        intro e
        have := congrArg List.length e
        simp at this
        omega
      · intro _ e
        left
        have := congrArg List.length e
        simp at this
        rcases this with h0 | h0
        · exact h0
        · rw [h0] at hql; simp at hql
    · obtain ⟨j, Q, h1, h2, h3, h4, h5⟩ := ih (fun x hx => h x (by simp [hx])) (k - q.length)
      refine ⟨j + 1, Q, by simpa using h1, ?_, h3, by simpa using h4, by omega⟩
      rw [List.flatten_cons, List.take_append, List.take_of_length_le (by omega), h2]
      simp
theorem count_lines : ∀ (ls : List (List UInt8)), (∀ q ∈ ls, ∃ p, q = p ++ [10] ∧ ∀ c ∈ p, c ≠ 10) → ls.flatten.count 10 = ls.length := by
  intro ls
  induction ls with
  | nil => intro _; rfl
  | cons q ls ih =>
    intro h
    obtain ⟨p, hp, hno⟩ := h q (by simp)
    rw [List.flatten_cons, List.count_append, ih (fun x hx => h x (by simp [hx])), hp, List.count_append, List.count_eq_zero.2 (fun hm => hno 10 hm rfl)]
    simp; omega
theorem last_lines {ls : List (List UInt8)} (h : ∀ q ∈ ls, ∃ p, q = p ++ [10] ∧ ∀ c ∈ p, c ≠ 10) (h0 : ls ≠ []) : ls.flatten.getLast? = some 10 := by
  obtain ⟨q, rs, rfl⟩ : ∃ q rs, ls = rs ++ [q] := ⟨ls.getLast h0, ls.dropLast, (List.dropLast_concat_getLast h0).symm⟩
  obtain ⟨p, hp, -⟩ := h q (by simp)
  rw [List.flatten_append]
  simp [hp]

theorem wordsT_no {ws : List (List UInt8)} (h : ∀ x ∈ ws, ∀ c ∈ x, c ≠ 10) : ∃ p, lineT ws = p ++ [10] ∧ ∀ c ∈ p, c ≠ 10 := by
  refine ⟨(wordsT ws).dropLast, rfl, fun c hc => ?_⟩
  have := (List.dropLast_sublist _).subset hc
  unfold wordsT at this
  obtain ⟨x, hx, hcx⟩ := List.mem_flatMap.1 this
  rcases List.mem_append.1 hcx with hcx | hcx
  · exact h x hx c hcx
  · simp at hcx; subst hcx; decide
theorem numW_no (z : Int) : ∀ c ∈ numW z, c ≠ 10 := (DN.hex z.toNat).no (by decide)
theorem busW_no {acc : List TB} {B : TB} (h : okOne acc B) : ∀ c ∈ busW B, c ≠ 10 := by
  obtain ⟨s1, -, -⟩ := h.spell
  obtain ⟨w1, w2⟩ := h.wide
  intro c hc
  unfold busW at hc
  rcases List.mem_append.1 hc with hc | hc
  · rcases List.mem_append.1 hc with hc | hc
    · exact spell_no c (List.all_eq_true.1 s1 c hc)
    · simp at hc; subst hc; decide
  · exact (DN.dec B.width.toNat (by omega)).no (by decide) c hc
theorem okL_mem : ∀ (L acc : List TB), okL acc L → ∀ B ∈ L, ∃ acc', okOne acc' B := by
  intro L
  induction L with
  | nil => intro acc _ B hB; simp at hB
  | cons C L ih =>
    intro acc h B hB
    rcases List.mem_cons.1 hB with rfl | hB
    · exact ⟨acc, h.1⟩
    · exact ih _ h.2 B hB
theorem put_lines (L : List TB) (R : List (List Int)) : putT L R = (headT L :: R.map rowT).flatten := by
  unfold putT
  rw [List.flatten_cons, List.flatMap_def]
theorem lines_ok {L : List TB} {R : List (List Int)} (h : mayT L R = true) (hn : NN R) : ∀ q ∈ headT L :: R.map rowT, ∃ p, q = p ++ [10] ∧ ∀ c ∈ p, c ≠ 10 := by
  obtain ⟨⟨h1, h2, h3⟩, h4, h5⟩ := (mayT_iff L R).1 ⟨h, hn⟩
  intro q hq
  rcases List.mem_cons.1 hq with rfl | hq
  · refine wordsT_no fun x hx => ?_
    obtain ⟨B, hB, rfl⟩ := List.mem_map.1 hx
    obtain ⟨acc, ho⟩ := okL_mem L [] h3 B hB
    exact busW_no ho
  · obtain ⟨r, -, rfl⟩ := List.mem_map.1 hq
    refine wordsT_no fun x hx => ?_
    obtain ⟨z, -, rfl⟩ := List.mem_map.1 hx
    exact numW_no z
theorem mayT_pre {L : List TB} {R : List (List Int)} (h : mayT L R = true) (hn : NN R) (j : Nat) : mayT L (R.take j) = true ∧ NN (R.take j) := by
  obtain ⟨h1, h4, h5⟩ := (mayT_iff L R).1 ⟨h, hn⟩
  exact (mayT_iff L (R.take j)).2 ⟨h1, by rw [List.length_take]; omega, fun r hr => h5 r (List.mem_of_mem_take hr)⟩
/-- Cut short. -/
theorem tableP_cut {L : List TB} {R : List (List Int)} (h : mayT L R = true) (hn : NN R) (k : Nat) (hk : k < (putT L R).length) :
    (((putT L R).take k).getLast? = some 10 → 1 ≤ ((putT L R).take k).count 10 ∧ ((putT L R).take k).count 10 - 1 ≤ R.length ∧ tableP ((putT L R).take k) = .ok (L, R.take (((putT L R).take k).count 10 - 1))) ∧
    (((putT L R).take k).getLast? ≠ some 10 → tableP ((putT L R).take k) = .error 4) := by
  have hl := lines_ok h hn
  obtain ⟨j, Q, h1, h2, h3, h4, h5⟩ := lines_cut _ hl k
  rw [← put_lines] at h2
  have hl2 : ∀ q ∈ (headT L :: R.map rowT).take j, ∃ p, q = p ++ [10] ∧ ∀ c ∈ p, c ≠ 10 := fun q hq => hl q (List.mem_of_mem_take hq)
  have hj : ((headT L :: R.map rowT).take j).length = j := by rw [List.length_take]; omega
  have hc : ((putT L R).take k).count 10 = j := by
    rw [h2, List.count_append, count_lines _ hl2, hj, List.count_eq_zero.2 (fun hm => h3 10 hm rfl)]; rfl
  have hjl : j ≤ R.length + 1 := by simpa using h1
  cases j with
  | zero =>
    have e0 : (putT L R).take k = Q := by rw [h2]; simp
    have hne : ((putT L R).take k).getLast? ≠ some 10 := by
      rw [e0]
      intro e
      exact h3 10 (List.mem_of_getLast? e) rfl
    refine ⟨fun e => absurd e hne, fun _ => ?_⟩
    rw [e0]
    rcases h4 with rfl | ⟨Q2, hq2, h4⟩
    · rfl
    · have h4 : headT L = Q ++ Q2 := by simpa using h4
      obtain ⟨⟨g1, g2, g3⟩, -, -⟩ := (mayT_iff L R).1 ⟨h, hn⟩
      have hr := busesP_run L 512 [] [] g1 g2 g3
      rw [List.append_nil, h4] at hr
      rcases busesP_split 512 [] Q Q2 _ _ hr with hb | ⟨P1, -, e⟩
      · unfold tableP; rw [hb]
      · have := congrArg List.length e
        have hq3 : 0 < Q2.length := List.length_pos_iff.2 hq2
        simp at this
        omega
  | succ j =>
    have e0 : ((headT L :: R.map rowT).take (j + 1)).flatten = putT L (R.take j) := by
      rw [put_lines, List.take_succ_cons, List.map_take]
    obtain ⟨m1, m2⟩ := mayT_pre h hn j
    rw [e0] at h2
    have hjj : j ≤ R.length := by omega
    rcases h4 with rfl | ⟨Q2, hq2, h4⟩
    · rw [List.append_nil] at h2
      have hlast : ((putT L R).take k).getLast? = some 10 := by
        rw [h2, ← e0]
        exact last_lines hl2 (by simp)
      refine ⟨fun _ => ⟨by omega, by omega, ?_⟩, fun e => absurd hlast e⟩
      rw [hc, h2]
      exact tableP_put m1 m2
    · have hQ : Q ≠ [] ∨ Q = [] := by by_cases e : Q = []; exact .inr e; exact .inl e
      rcases hQ with hQ | hQ
      · have hne : ((putT L R).take k).getLast? ≠ some 10 := by
          rw [h2, List.getLast?_append]
          intro e
          cases hq : Q.getLast? with
          | none => exact hQ (List.getLast?_eq_none_iff.1 hq)
          | some c =>
            rw [hq] at e
            simp at e
            exact h3 c (List.mem_of_getLast? hq) e
        refine ⟨fun e => absurd e hne, fun _ => ?_⟩
        rw [h2, tableP_run m1 m2]
        obtain ⟨⟨g1, g2, g3⟩, g4, g5⟩ := (mayT_iff L R).1 ⟨h, hn⟩
        have hlt : j < R.length := by
          have := (List.getElem?_eq_some_iff.1 h4).1
          simpa using this
        have h4 : rowT R[j] = Q ++ Q2 := by
          have := h4
          simpa [hlt] using this
        have hlen : (R.take j).length = j := by rw [List.length_take]; omega
        obtain ⟨m, hm⟩ : ∃ m, 4096 - (R.take j).length = m + 1 := ⟨4096 - j - 1, by omega⟩
        rw [hm, rowsP_step, if_neg hQ]
        have hr := rowP_run _ R[j] [] (tops_ne g1) (g5 _ (List.getElem_mem hlt))
        rw [List.append_nil, h4] at hr
        rcases rowP_split _ Q Q2 _ _ hr with hb | ⟨P1, -, e⟩
        · rw [hb]
        · have := congrArg List.length e
          have hq3 : 0 < Q2.length := List.length_pos_iff.2 hq2
          simp at this
          omega
      · subst hQ
        rw [List.append_nil] at h2
        have hlast : ((putT L R).take k).getLast? = some 10 := by
          rw [h2, ← e0]
          exact last_lines hl2 (by simp)
        refine ⟨fun _ => ⟨by omega, by omega, ?_⟩, fun e => absurd hlast e⟩
        rw [hc, h2]
        exact tableP_put m1 m2

/-- Only these errors. -/
theorem numP_err {B least most : Nat} : ∀ (l : List UInt8) (k n e : Nat), numP B least most k n l = .error e → e = 4 ∨ e = 5 := by
  intro l
  induction l with
  | nil => intro k n e h; rw [numP_nil] at h; cases h; exact .inl rfl
  | cons c l ih =>
    intro k n e h
    rw [numP_cons] at h
    split at h
    · split at h <;> cases h; exact .inr rfl
    · split at h
      · exact ih _ _ _ h
      · cases h; exact .inr rfl
theorem nameP_err : ∀ (l acc : List UInt8) (e : Nat), nameP acc l = .error e → e = 4 ∨ e = 5 := by
  intro l
  induction l with
  | nil => intro acc e h; rw [nameP_nilF] at h; cases h; exact .inl rfl
  | cons c l ih =>
    intro acc e h
    rw [nameP_consF] at h
    split at h
    · split at h
      · exact ih _ _ h
      · cases h; exact .inr rfl
    · split at h <;> cases h; exact .inr rfl
theorem busP_err {acc : List TB} {l : List UInt8} {e : Nat} (h : busP acc l = .error e) : e = 4 ∨ e = 5 := by
  unfold busP at h
  cases hn : nameP [] l with
  | error x => rw [hn] at h; cases h; exact nameP_err _ _ _ hn
  | ok y =>
    rw [hn] at h
    simp only at h
    split at h
    · cases h; exact .inr rfl
    · cases hm : numP 10 1 64 0 0 y.2 with
      | error x => rw [hm] at h; cases h; exact numP_err _ _ _ _ hm
      | ok z =>
        rw [hm] at h
        simp only at h
        split at h <;> cases h; exact .inr rfl
theorem busesP_err : ∀ (k : Nat) (acc : List TB) (l : List UInt8) (e : Nat), busesP k acc l = .error e → e = 4 ∨ e = 5 := by
  intro k
  induction k with
  | zero => intro acc l e h; unfold busesP at h; cases h; exact .inr rfl
  | succ k ih =>
    intro acc l e h
    unfold busesP at h
    cases hb : busP acc l with
    | error x => rw [hb] at h; cases h; exact busP_err hb
    | ok y =>
      rw [hb] at h
      simp only at h
      split at h
      · exact ih _ _ _ h
      · cases h
theorem rowP_err : ∀ (ts : List Nat) (l : List UInt8) (e : Nat), rowP ts l = .error e → e = 4 ∨ e = 5 := by
  intro ts
  induction ts with
  | nil => intro l e h; rw [rowP_nil] at h; cases h
  | cons t ts ih =>
    intro l e h
    rw [rowP_cons] at h
    cases hm : numP 16 0 t 0 0 l with
    | error x => rw [hm] at h; cases h; exact numP_err _ _ _ _ hm
    | ok z =>
      rw [hm] at h
      obtain ⟨⟨n, b⟩, l1⟩ := z
      simp only at h
      by_cases g2 : (if ts = [] then b = 10 else b = 32)
      · rw [if_pos g2] at h
        cases hr : rowP ts l1 with
        | error x => rw [hr] at h; cases h; exact ih _ _ hr
        | ok y => rw [hr] at h; cases h
      · rw [if_neg g2] at h; cases h; exact .inr rfl
theorem rowsP_err (ts : List Nat) : ∀ (k : Nat) (acc : List (List Int)) (l : List UInt8) (e : Nat), rowsP ts k acc l = .error e → e = 4 ∨ e = 5 := by
  intro k
  induction k with
  | zero =>
    intro acc l e h
    simp only [rowsP] at h
    split at h <;> cases h; exact .inr rfl
  | succ k ih =>
    intro acc l e h
    rw [rowsP_step] at h
    split at h
    · cases h
    · cases hr : rowP ts l with
      | error x => rw [hr] at h; cases h; exact rowP_err _ _ _ hr
      | ok y => rw [hr] at h; exact ih _ _ _ h
theorem tableP_err {l : List UInt8} {e : Nat} (h : tableP l = .error e) : e = 4 ∨ e = 5 := by
  unfold tableP at h
  cases hb : busesP 512 [] l with
  | error x => rw [hb] at h; cases h; exact busesP_err _ _ _ _ hb
  | ok y =>
    rw [hb] at h
    simp only at h
    cases hr : rowsP ((tops y.1).map Int.toNat) 4096 [] y.2 with
    | error x => rw [hr] at h; cases h; exact rowsP_err _ _ _ _ _ hr
    | ok R => rw [hr] at h; cases h
end Go.Proofs.YtnhpjacodhdpeaaDoor
