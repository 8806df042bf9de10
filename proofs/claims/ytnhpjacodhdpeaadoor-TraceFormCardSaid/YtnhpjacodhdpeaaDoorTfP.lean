/-
  A table's text, plainly: what is written is read; what is read is so written.
-/
import Derived.Test.YtnhpjacodhdpeaaDoorTrH
namespace Go.Proofs.YtnhpjacodhdpeaaDoor
open Bits
set_option maxRecDepth 100000

/-- p is how the number v is written to the base B. -/
inductive DN (B : Nat) : Nat → List UInt8 → Prop
  | one {d : Nat} (h : d < B) : DN B d [hx d]
  | more {n d : Nat} {p : List UInt8} (hn : 0 < n) (h : d < B) (hp : DN B n p) : DN B (n * B + d) (p ++ [hx d])
theorem digP_hx : ∀ d, d < 16 → digP (hx d) = (d, true) := by decide +kernel
theorem hx_digP (c : UInt8) (h : (digP c).2 = true) : c = hx (digP c).1 := by
  have key : ∀ n, n < 256 → (digP (UInt8.ofNat n)).2 = true → UInt8.ofNat n = hx (digP (UInt8.ofNat n)).1 := by decide +kernel
  have := key c.toNat (UInt8.toNat_lt c)
  rw [UInt8.ofNat_toNat] at this
  exact this h
theorem hx_no (d : Nat) (h : d < 16) : hx d ≠ 10 ∧ hx d ≠ 32 := by
  have key : ∀ d, d < 16 → hx d ≠ 10 ∧ hx d ≠ 32 := by decide +kernel
  exact key d h
theorem DN.pos {B n : Nat} {p : List UInt8} (h : DN B n p) : 0 < p.length := by cases h <;> simp
theorem DN.no {B n : Nat} {p : List UInt8} (hB : B ≤ 16) (h : DN B n p) : ∀ c ∈ p, c ≠ 10 := by
  induction h with
  | one h => intro c hc; simp at hc; subst hc; exact (hx_no _ (by omega)).1
  | more hn h hp ih =>
    intro c hc
    rcases List.mem_append.1 hc with hc | hc
    · exact ih c hc
    · simp at hc; subst hc; exact (hx_no _ (by omega)).1
theorem DN.hex (v : Nat) : DN 16 v (hexD v) := by
  induction v using Nat.strongRecOn with
  | ind v ih =>
    by_cases h : v < 16
    · have e : hexD v = [hx v] := by unfold hexD; rw [nHex_small h]; simp [hexA, Nat.mod_eq_of_lt h]
      rw [e]; exact .one h
    · have e : hexD v = hexD (v / 16) ++ [hx (v % 16)] := by unfold hexD; rw [nHex_big h]; rfl
      have h1 := DN.more (B := 16) (n := v / 16) (d := v % 16) (Nat.div_pos (by omega) (by decide)) (Nat.mod_lt _ (by decide)) (ih (v / 16) (Nat.div_lt_self (by omega) (by decide)))
      have e2 : v / 16 * 16 + v % 16 = v := by omega
      rw [e2] at h1; rw [e]; exact h1
theorem DN.dec (v : Nat) (h : v < 100) : DN 10 v (decT v) := by
  unfold decT
  by_cases h1 : v < 10
  · rw [if_pos h1]
    have e : hx v = UInt8.ofNat (48 + v) := by unfold hx; rw [if_pos h1]
    rw [← e]; exact .one h1
  · rw [if_neg h1]
    have e1 : hx (v / 10) = UInt8.ofNat (48 + v / 10) := by unfold hx; rw [if_pos (by omega)]
    have e2 : hx (v % 10) = UInt8.ofNat (48 + v % 10) := by unfold hx; rw [if_pos (by omega)]
    have h2 := DN.more (B := 10) (n := v / 10) (d := v % 10) (by omega) (by omega) (.one (by omega))
    have e3 : v / 10 * 10 + v % 10 = v := by omega
    rw [e3] at h2
    rw [← e1, ← e2]; exact h2
/-- Only one way of writing. -/
theorem DN.uniq {B : Nat} (hB : 1 < B) : ∀ {v : Nat} {p q : List UInt8}, DN B v p → DN B v q → p = q := by
  intro v
  induction v using Nat.strongRecOn with
  | ind v ih =>
    intro p q hp hq
    have big : ∀ {n d : Nat}, 0 < n → B ≤ n * B + d := fun {n d} hn => by
      have := Nat.le_mul_of_pos_left B hn; omega
    generalize hv : v = v' at hq
    cases hp with
    | one h =>
      cases hq with
      | one h' => rw [hv]
      | @more n' d' p' hn' h' hp' => have := big (d := d') hn'; omega
    | @more n d p hn h hp =>
      cases hq with
      | one h' => have := big (d := d) hn; omega
      | @more n' d' p' hn' h' hp' =>
        have hd : d = d' := by
          have := congrArg (· % B) hv
          simpa [Nat.mul_add_mod_self_right, Nat.mod_eq_of_lt h, Nat.mod_eq_of_lt h', Nat.add_comm, Nat.add_mul_mod_self_right] using this
        subst hd
        have hn2 : n = n' := Nat.eq_of_mul_eq_mul_right (show 0 < B by omega) (by omega)
        subst hn2
        have hlt : n < n * B + d := by
          have := Nat.mul_lt_mul_of_pos_left hB hn
          omega
        rw [ih n hlt hp hp']

theorem numP_nil (B least most k n : Nat) : numP B least most k n [] = .error 4 := by rw [numP]
theorem numP_cons (B least most k n : Nat) (c : UInt8) (l : List UInt8) : numP B least most k n (c :: l) =
    if (digP c).2 = false ∨ B ≤ (digP c).1 then (if 0 < k then .ok ((n, c), l) else .error 5)
    else if (k = 0 ∨ 0 < n) ∧ ((digP c).1 ≤ most ∧ n ≤ (most - (digP c).1) / B) ∧ least ≤ n * B + (digP c).1 then numP B least most (k + 1) (n * B + (digP c).1) l
    else .error 5 := by rw [numP]
theorem numP_run {B least most : Nat} (hB : B ≤ 16) (h0 : 0 < B) (hl : least ≤ 1) {v : Nat} {p : List UInt8} (h : DN B v p) : v ≤ most → least ≤ v → ∀ l, numP B least most 0 0 (p ++ l) = numP B least most p.length v l := by
  induction h with
  | @one d h =>
    intro hm hv l
    rw [List.singleton_append, numP_cons, digP_hx d (by omega), if_neg (by simp; omega), if_pos ⟨.inl rfl, ⟨hm, Nat.zero_le _⟩, by simpa using hv⟩]
    simp
  | @more n d p hn h hp ih =>
    intro hm hv l
    have hnm : n ≤ n * B := Nat.le_mul_of_pos_right n h0
    rw [List.append_assoc, ih (by omega) (by omega), List.singleton_append, numP_cons, digP_hx d (by omega), if_neg (by simp; omega), if_pos ⟨.inr hn, ⟨by show d ≤ most; omega, (Nat.le_div_iff_mul_le h0).2 (by show n * B ≤ most - d; omega)⟩, hv⟩]
    simp
/-- A number, and a byte behind that is none of its digits. -/
theorem numP_num {B least most : Nat} (hB : B ≤ 16) (h0 : 0 < B) (hl : least ≤ 1) {v : Nat} {p : List UInt8} (h : DN B v p) (hm : v ≤ most) (hv : least ≤ v) {c : UInt8} (hc : (digP c).2 = false) (l : List UInt8) : numP B least most 0 0 (p ++ c :: l) = .ok ((v, c), l) := by
  rw [numP_run hB h0 hl h hm hv, numP_cons, if_pos (.inl hc), if_pos h.pos]
theorem numP_split {B least most : Nat} : ∀ (P Q : List UInt8) (k n : Nat) (x : Nat × UInt8) (l1 : List UInt8), numP B least most k n (P ++ Q) = .ok (x, l1) → numP B least most k n P = .error 4 ∨ ∃ P1, numP B least most k n P = .ok (x, P1) ∧ l1 = P1 ++ Q := by
  intro P
  induction P with
  | nil => intro Q k n x l1 _; exact .inl (numP_nil ..)
  | cons c P ih =>
    intro Q k n x l1 h
    rw [List.cons_append, numP_cons] at h
    rw [numP_cons]
    split at h
    · split at h
      · rename_i g1 g2
        cases h
        rw [if_pos g1, if_pos g2]; exact .inr ⟨P, rfl, rfl⟩
      · cases h
    · rename_i g1
      split at h
      · rename_i g2
        rw [if_neg g1, if_pos g2]; exact ih _ _ _ _ _ h
      · cases h
theorem numP_inv {B least most : Nat} (hB : B ≤ 16) (h0 : 0 < B) : ∀ (l : List UInt8) (k n : Nat) (pre : List UInt8) (v : Nat) (c : UInt8) (l1 : List UInt8), (k = 0 ∧ n = 0 ∧ pre = []) ∨ (0 < k ∧ DN B n pre ∧ least ≤ n ∧ n ≤ most) → numP B least most k n l = .ok ((v, c), l1) →
    ∃ p, DN B v p ∧ pre ++ l = p ++ c :: l1 ∧ least ≤ v ∧ v ≤ most := by
  intro l
  induction l with
  | nil => intro k n pre v c l1 _ h; rw [numP_nil] at h; cases h
  | cons c0 l ih =>
    intro k n pre v c l1 hi h
    rw [numP_cons] at h
    split at h
    · split at h
      · rename_i g1 g2
        cases h
        rcases hi with hi | hi
        · omega
        · exact ⟨pre, hi.2.1, rfl, hi.2.2.1, hi.2.2.2⟩
      · cases h
    · rename_i g1
      split at h
      · rename_i g2
        obtain ⟨h1, ⟨h2, h3⟩, h4⟩ := g2
        simp only [not_or, Nat.not_le] at g1
        have hd : (digP c0).2 = true := by simpa using g1.1
        have hc := hx_digP c0 hd
        generalize (digP c0).1 = d at *
        have hmost : n * B + d ≤ most := by
          have := (Nat.le_div_iff_mul_le h0).1 h3; omega
        have := ih (k + 1) (n * B + d) (pre ++ [c0]) v c l1 (.inr ⟨by omega, by
          rcases hi with ⟨-, hn, hp⟩ | ⟨hk, hdn, -⟩
          · subst hn; subst hp; rw [hc]; simpa using DN.one (B := B) g1.2
          · rw [hc]; exact .more (by omega) g1.2 hdn, h4, hmost⟩) h
        simpa using this
      · cases h

theorem spell58 : spellT ((58 : UInt8).toNat : Int) = false := by decide +kernel
theorem spell_no (c : UInt8) (h : spellT (c.toNat : Int) = true) : c ≠ 10 := by
  rintro rfl
  exact absurd h (by decide +kernel)
theorem nameP_nil (acc : List UInt8) : nameP acc [] = .error 4 := by rw [nameP]
theorem nameP_cons (acc : List UInt8) (c : UInt8) (l : List UInt8) : nameP acc (c :: l) = if spellT c.toNat = true then (if acc.length < 33 then nameP (acc ++ [c]) l else .error 5) else if c = 58 ∧ 0 < acc.length then .ok (acc, l) else .error 5 := by rw [nameP]
theorem nameP_run : ∀ (s acc l : List UInt8), spellA s = true → acc.length + s.length ≤ 33 → 0 < acc.length + s.length → nameP acc (s ++ 58 :: l) = .ok (acc ++ s, l) := by
  intro s
  induction s with
  | nil =>
    intro acc l _ _ h
    have h58 : ¬ spellT ((58 : UInt8).toNat : Int) = true := by rw [spell58]; decide
    rw [List.nil_append, nameP_cons, if_neg h58, if_pos ⟨rfl, by simpa using h⟩]; simp
  | cons c s ih =>
    intro acc l hs h1 h2
    simp only [spellA, List.all_cons, Bool.and_eq_true] at hs
    simp only [List.length_cons] at h1
    rw [List.cons_append, nameP_cons, if_pos hs.1, if_pos (by omega), ih _ _ hs.2 (by simp; omega) (by simp; omega)]
    simp
theorem nameP_split : ∀ (P Q acc x l1 : List UInt8), nameP acc (P ++ Q) = .ok (x, l1) → nameP acc P = .error 4 ∨ ∃ P1, nameP acc P = .ok (x, P1) ∧ l1 = P1 ++ Q := by
  intro P
  induction P with
  | nil => intro Q acc x l1 _; exact .inl (nameP_nil _)
  | cons c P ih =>
    intro Q acc x l1 h
    rw [List.cons_append, nameP_cons] at h
    rw [nameP_cons]
    split at h
    · rename_i g1
      split at h
      · rename_i g2
        rw [if_pos g1, if_pos g2]; exact ih _ _ _ _ h
      · cases h
    · rename_i g1
      split at h
      · rename_i g2
        cases h
        rw [if_neg g1, if_pos g2]; exact .inr ⟨P, rfl, rfl⟩
      · cases h
theorem nameP_inv : ∀ (l acc nm l1 : List UInt8), acc.length ≤ 33 → nameP acc l = .ok (nm, l1) → ∃ s, nm = acc ++ s ∧ l = s ++ 58 :: l1 ∧ spellA s = true ∧ nm.length ≤ 33 ∧ 0 < nm.length := by
  intro l
  induction l with
  | nil => intro acc nm l1 _ h; rw [nameP_nil] at h; cases h
  | cons c l ih =>
    intro acc nm l1 ha h
    rw [nameP_cons] at h
    split at h
    · rename_i g1
      split at h
      · rename_i g2
        obtain ⟨s, h1, h2, h3, h4, h5⟩ := ih _ _ _ (by simp; omega) h
        refine ⟨c :: s, by rw [h1]; simp, by rw [h2]; rfl, ?_, h4, h5⟩
        unfold spellA at h3 ⊢
        rw [List.all_cons, h3, g1]; rfl
      · cases h
    · split at h
      · rename_i g2
        cases h
        obtain ⟨rfl, g3⟩ := g2
        exact ⟨[], by simp, rfl, rfl, ha, g3⟩
      · cases h
end Go.Proofs.YtnhpjacodhdpeaaDoor
