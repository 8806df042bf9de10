/-
  A table's text, plainly: buses and rows.
-/
import Derived.Test.YtnhpjacodhdpeaaDoorTfP
namespace Go.Proofs.YtnhpjacodhdpeaaDoor
open Bits
set_option maxRecDepth 100000

theorem lineT_one (x : List UInt8) : lineT [x] = x ++ [10] := by simp [lineT, wordsT]
theorem lineT_cons (x y : List UInt8) (ws : List (List UInt8)) : lineT (x :: y :: ws) = x ++ 32 :: lineT (y :: ws) := by
  have h : wordsT (y :: ws) ≠ [] := by simp [wordsT]
  have e : wordsT (x :: y :: ws) = (x ++ [32]) ++ wordsT (y :: ws) := rfl
  unfold lineT
  rw [e, List.dropLast_append_of_ne_nil h]
  simp
theorem TB.eq_of {B : TB} : (⟨⟨B.name.data.toList.toArray⟩, B.width⟩ : TB) = B := by
  obtain ⟨⟨d⟩, w⟩ := B
  show (⟨⟨d.toList.toArray⟩, w⟩ : TB) = ⟨⟨d⟩, w⟩
  rw [Array.toArray_toList]

/-- What a bus must be behind these. -/
def okOne (acc : List TB) (B : TB) : Prop := nameT B.name = true ∧ wideT B.width = true ∧ atT acc B.name = none
def okL : List TB → List TB → Prop
  | _, [] => True
  | acc, B :: L => okOne acc B ∧ okL (acc ++ [B]) L

theorem okOne.wide {acc : List TB} {B : TB} (h : okOne acc B) : 1 ≤ B.width ∧ B.width ≤ 64 := by
  have := h.2.1
  simpa [wideT] using this
theorem okOne.spell {acc : List TB} {B : TB} (h : okOne acc B) : spellA B.name.data.toList = true ∧ B.name.data.toList.length ≤ 33 ∧ 0 < B.name.data.toList.length := by
  have := h.1
  simp only [nameT, Bool.and_eq_true, decide_eq_true_eq] at this
  have e : B.name.size = B.name.data.toList.length := rfl
  refine ⟨this.2, ?_, ?_⟩ <;> omega
theorem digP_sep {c : UInt8} (h : c = 32 ∨ c = 10) : (digP c).2 = false := by rcases h with rfl | rfl <;> decide
theorem busP_run {acc : List TB} {B : TB} (h : okOne acc B) {c : UInt8} (hc : c = 32 ∨ c = 10) (l : List UInt8) : busP acc (busW B ++ c :: l) = .ok ((B, c), l) := by
  obtain ⟨s1, s2, s3⟩ := h.spell
  obtain ⟨w1, w2⟩ := h.wide
  have e1 : busW B ++ c :: l = B.name.data.toList ++ 58 :: (decT B.width.toNat ++ c :: l) := by unfold busW; simp
  have e2 : nameP [] (B.name.data.toList ++ 58 :: (decT B.width.toNat ++ c :: l)) = .ok (B.name.data.toList, decT B.width.toNat ++ c :: l) := by
    have := nameP_run B.name.data.toList [] (decT B.width.toNat ++ c :: l) s1 (by simpa using s2) (by simpa using s3)
    simpa using this
  have e3 := numP_num (B := 10) (least := 1) (most := 64) (by decide) (by decide) (by decide) (DN.dec B.width.toNat (by omega)) (by omega) (by omega) (digP_sep hc) l
  have e4 : atT acc ⟨B.name.data.toList.toArray⟩ = none := by simpa using h.2.2
  unfold busP
  rw [e1, e2]
  simp only [e4, Option.isNone_none, Bool.true_eq_false, if_false, e3, if_pos hc]
  have e5 : ((B.width.toNat : Nat) : Int) = B.width := by omega
  rw [e5, TB.eq_of]
theorem busP_split {acc : List TB} (P Q : List UInt8) (x : TB × UInt8) (l1 : List UInt8) (h : busP acc (P ++ Q) = .ok (x, l1)) : busP acc P = .error 4 ∨ ∃ P1, busP acc P = .ok (x, P1) ∧ l1 = P1 ++ Q := by
  unfold busP at h ⊢
  cases hn : nameP [] (P ++ Q) with
  | error e => rw [hn] at h; cases h
  | ok y =>
    obtain ⟨nm, l2⟩ := y
    rw [hn] at h
    rcases nameP_split P Q [] nm l2 hn with h1 | ⟨P1, h1, rfl⟩
    · rw [h1]; exact .inl rfl
    · rw [h1]
      simp only at h ⊢
      split at h
      · cases h
      · rename_i g1
        rw [if_neg g1]
        cases hm : numP 10 1 64 0 0 (P1 ++ Q) with
        | error e => rw [hm] at h; cases h
        | ok z =>
          obtain ⟨⟨w, b⟩, l3⟩ := z
          rw [hm] at h
          rcases numP_split P1 Q 0 0 (w, b) l3 hm with h2 | ⟨P2, h2, rfl⟩
          · rw [h2]; exact .inl rfl
          · rw [h2]
            simp only at h ⊢
            split at h
            · rename_i g2
              cases h
              rw [if_pos g2]; exact .inr ⟨P2, rfl, rfl⟩
            · cases h
theorem busP_inv {acc : List TB} {l : List UInt8} {B : TB} {c : UInt8} {l1 : List UInt8} (h : busP acc l = .ok ((B, c), l1)) : okOne acc B ∧ l = busW B ++ c :: l1 ∧ (c = 32 ∨ c = 10) := by
  unfold busP at h
  cases hn : nameP [] l with
  | error e => rw [hn] at h; cases h
  | ok y =>
    obtain ⟨nm, l2⟩ := y
    rw [hn] at h
    obtain ⟨s, h1, h2, h3, h4, h5⟩ := nameP_inv l [] nm l2 (by simp) hn
    simp only [List.nil_append] at h1
    subst h1
    simp only at h
    split at h
    · cases h
    · rename_i g1
      cases hm : numP 10 1 64 0 0 l2 with
      | error e => rw [hm] at h; cases h
      | ok z =>
        obtain ⟨⟨w, b⟩, l3⟩ := z
        rw [hm] at h
        obtain ⟨p, k1, k2, k3, k4⟩ := numP_inv (by decide) (by decide) l2 0 0 [] w b l3 (.inl ⟨rfl, rfl, rfl⟩) hm
        simp only at h
        split at h
        · rename_i g2
          cases h
          have hp := DN.uniq (by decide) k1 (DN.dec w (by omega))
          refine ⟨⟨?_, by simp [wideT]; omega, by simpa [Option.isNone_iff_eq_none] using g1⟩, ?_, g2⟩
          · have e : ByteArray.size ⟨nm.toArray⟩ = nm.length := by simp [ByteArray.size]
            simp only [nameT, e, Bool.and_eq_true, decide_eq_true_eq]
            exact ⟨⟨h5, h4⟩, h3⟩
          · rw [h2]
            simp only [List.nil_append] at k2
            rw [k2, hp]
            unfold busW
            simp
        · cases h

theorem headT_one (B : TB) : headT [B] = busW B ++ [10] := lineT_one _
theorem headT_cons (B C : TB) (L : List TB) : headT (B :: C :: L) = busW B ++ 32 :: headT (C :: L) := lineT_cons _ _ _
theorem busesP_run : ∀ (L : List TB) (k : Nat) (acc : List TB) (l : List UInt8), L ≠ [] → L.length ≤ k → okL acc L → busesP k acc (headT L ++ l) = .ok (acc ++ L, l) := by
  intro L
  induction L with
  | nil => intro k acc l h; exact absurd rfl h
  | cons B L ih =>
    intro k acc l _ hk ho
    cases k with
    | zero => simp at hk
    | succ k =>
      cases L with
      | nil =>
        rw [headT_one, List.append_assoc, List.singleton_append]
        unfold busesP
        rw [busP_run ho.1 (.inr rfl)]
        simp
      | cons C L =>
        rw [headT_cons, List.append_assoc, List.cons_append]
        unfold busesP
        rw [busP_run ho.1 (.inl rfl)]
        simp only [if_true]
        rw [ih k (acc ++ [B]) l (by simp) (by simpa using hk) ho.2]
        simp
theorem busesP_split : ∀ (k : Nat) (acc : List TB) (P Q : List UInt8) (x : List TB) (l1 : List UInt8), busesP k acc (P ++ Q) = .ok (x, l1) → busesP k acc P = .error 4 ∨ ∃ P1, busesP k acc P = .ok (x, P1) ∧ l1 = P1 ++ Q := by
  intro k
  induction k with
  | zero => intro acc P Q x l1 h; unfold busesP at h; cases h
  | succ k ih =>
    intro acc P Q x l1 h
    unfold busesP at h ⊢
    cases hb : busP acc (P ++ Q) with
    | error e => rw [hb] at h; cases h
    | ok y =>
      obtain ⟨⟨B, c⟩, l2⟩ := y
      rw [hb] at h
      rcases busP_split P Q (B, c) l2 hb with h1 | ⟨P1, h1, rfl⟩
      · rw [h1]; exact .inl rfl
      · rw [h1]
        simp only at h ⊢
        split at h
        · rename_i g
          rw [if_pos g]; exact ih _ _ _ _ _ h
        · rename_i g
          cases h
          rw [if_neg g]; exact .inr ⟨P1, rfl, rfl⟩
theorem busesP_inv : ∀ (k : Nat) (acc : List TB) (l : List UInt8) (L : List TB) (l1 : List UInt8), busesP k acc l = .ok (L, l1) → ∃ L2, L = acc ++ L2 ∧ L2 ≠ [] ∧ L2.length ≤ k ∧ okL acc L2 ∧ l = headT L2 ++ l1 := by
  intro k
  induction k with
  | zero => intro acc l L l1 h; unfold busesP at h; cases h
  | succ k ih =>
    intro acc l L l1 h
    unfold busesP at h
    cases hb : busP acc l with
    | error e => rw [hb] at h; cases h
    | ok y =>
      obtain ⟨⟨B, c⟩, l2⟩ := y
      rw [hb] at h
      obtain ⟨h1, h2, h3⟩ := busP_inv hb
      simp only at h
      split at h
      · rename_i g
        subst g
        obtain ⟨L2, g1, g2, g3, g4, g5⟩ := ih _ _ _ _ h
        obtain ⟨C, L3, rfl⟩ := List.exists_cons_of_ne_nil g2
        refine ⟨B :: C :: L3, by rw [g1]; simp, by simp, by simpa using g3, ⟨h1, g4⟩, ?_⟩
        rw [h2, g5, headT_cons]; simp
      · rename_i g
        cases h
        have hc : c = 10 := by rcases h3 with h3 | h3; exact absurd h3 g; exact h3
        subst hc
        refine ⟨[B], rfl, by simp, by simp, ⟨h1, trivial⟩, ?_⟩
        rw [h2, headT_one]; simp

theorem rowT_one (z : Int) : rowT [z] = numW z ++ [10] := lineT_one _
theorem rowT_cons (z y : Int) (r : List Int) : rowT (z :: y :: r) = numW z ++ 32 :: rowT (y :: r) := lineT_cons _ _ _
/-- A row of numbers below these. -/
def fitP : List Nat → List Int → Prop
  | [], [] => True
  | t :: ts, z :: r => 0 ≤ z ∧ z.toNat ≤ t ∧ fitP ts r
  | _, _ => False
theorem rowP_nil (l : List UInt8) : rowP [] l = .ok ([], l) := rfl
theorem rowP_cons (t : Nat) (ts : List Nat) (l : List UInt8) : rowP (t :: ts) l = match numP 16 0 t 0 0 l with
    | .error e => .error e
    | .ok ((n, b), l1) =>
      if (if ts = [] then b = 10 else b = 32) then
        match rowP ts l1 with
        | .error e => .error e
        | .ok (r, l2) => .ok ((n : Int) :: r, l2)
      else .error 5 := by
  conv => lhs; unfold rowP
  rfl
theorem rowP_run : ∀ (ts : List Nat) (r : List Int) (l : List UInt8), ts ≠ [] → fitP ts r → rowP ts (rowT r ++ l) = .ok (r, l) := by
  intro ts
  induction ts with
  | nil => intro r l h; exact absurd rfl h
  | cons t ts ih =>
    intro r l _ hf
    cases r with
    | nil => exact hf.elim
    | cons z r =>
      obtain ⟨h0, h1, h2⟩ := hf
      have e5 : ((z.toNat : Nat) : Int) = z := by omega
      cases ts with
      | nil =>
        cases r with
        | cons _ _ => exact h2.elim
        | nil =>
          rw [rowT_one, List.append_assoc, List.singleton_append, rowP_cons]
          unfold numW
          rw [numP_num (by decide) (by decide) (by decide) (DN.hex z.toNat) h1 (Nat.zero_le _) (digP_sep (.inr rfl))]
          simp [rowP_nil, e5]
      | cons s ts =>
        cases r with
        | nil => exact h2.elim
        | cons y r =>
          rw [rowT_cons, List.append_assoc, List.cons_append, rowP_cons]
          unfold numW
          rw [numP_num (by decide) (by decide) (by decide) (DN.hex z.toNat) h1 (Nat.zero_le _) (digP_sep (.inl rfl))]
          simp only [List.cons_ne_nil, if_false, if_true]
          rw [ih _ l (by simp) h2]
          simp [e5]
theorem rowP_split : ∀ (ts : List Nat) (P Q : List UInt8) (x : List Int) (l1 : List UInt8), rowP ts (P ++ Q) = .ok (x, l1) → rowP ts P = .error 4 ∨ ∃ P1, rowP ts P = .ok (x, P1) ∧ l1 = P1 ++ Q := by
  intro ts
  induction ts with
  | nil => intro P Q x l1 h; rw [rowP_nil] at h ⊢; cases h; exact .inr ⟨P, rfl, rfl⟩
  | cons t ts ih =>
    intro P Q x l1 h
    rw [rowP_cons] at h ⊢
    cases hm : numP 16 0 t 0 0 (P ++ Q) with
    | error e => rw [hm] at h; cases h
    | ok z =>
      obtain ⟨⟨w, b⟩, l3⟩ := z
      rw [hm] at h
      rcases numP_split P Q 0 0 (w, b) l3 hm with h2 | ⟨P2, h2, rfl⟩
      · rw [h2]; exact .inl rfl
      · rw [h2]
        simp only at h ⊢
        by_cases g2 : (if ts = [] then b = 10 else b = 32)
        · rw [if_pos g2] at h ⊢
          cases hr : rowP ts (P2 ++ Q) with
          | error e => rw [hr] at h; cases h
          | ok y =>
            obtain ⟨r, l4⟩ := y
            rw [hr] at h
            rcases ih P2 Q r l4 hr with h3 | ⟨P3, h3, rfl⟩
            · rw [h3]; exact .inl rfl
            · rw [h3]; cases h; exact .inr ⟨P3, rfl, rfl⟩
        · rw [if_neg g2] at h; cases h
theorem rowP_inv : ∀ (ts : List Nat) (l : List UInt8) (r : List Int) (l1 : List UInt8), ts ≠ [] → rowP ts l = .ok (r, l1) → fitP ts r ∧ l = rowT r ++ l1 := by
  intro ts
  induction ts with
  | nil => intro l r l1 h; exact absurd rfl h
  | cons t ts ih =>
    intro l r l1 _ h
    rw [rowP_cons] at h
    cases hm : numP 16 0 t 0 0 l with
    | error e => rw [hm] at h; cases h
    | ok z =>
      obtain ⟨⟨w, b⟩, l3⟩ := z
      rw [hm] at h
      obtain ⟨p, k1, k2, -, k4⟩ := numP_inv (by decide) (by decide) l 0 0 [] w b l3 (.inl ⟨rfl, rfl, rfl⟩) hm
      have hp := DN.uniq (by decide) k1 (DN.hex w)
      simp only [List.nil_append] at k2
      simp only at h
      by_cases g2 : (if ts = [] then b = 10 else b = 32)
      · rw [if_pos g2] at h
        cases hr : rowP ts l3 with
        | error e => rw [hr] at h; cases h
        | ok y =>
          obtain ⟨r', l4⟩ := y
          rw [hr] at h
          cases h
          have e : numW ((w : Nat) : Int) = p := by rw [hp]; rfl
          cases ts with
          | nil =>
            rw [rowP_nil] at hr
            cases hr
            simp only [if_true] at g2
            subst g2
            refine ⟨⟨by omega, by simpa using k4, trivial⟩, ?_⟩
            rw [rowT_one, e, k2]; simp
          | cons s ts =>
            obtain ⟨q1, q2⟩ := ih l3 r' l1 (by simp) hr
            simp only [List.cons_ne_nil, if_false] at g2
            subst g2
            cases r' with
            | nil => exact q1.elim
            | cons y r' =>
              refine ⟨⟨by omega, by simpa using k4, q1⟩, ?_⟩
              rw [rowT_cons, e, k2, q2]; simp
      · rw [if_neg g2] at h; cases h
theorem rowT_ne (r : List Int) : rowT r ≠ [] := by simp [rowT, lineT]
theorem rowsP_step (ts : List Nat) (k : Nat) (acc : List (List Int)) (l : List UInt8) : rowsP ts (k + 1) acc l = if l = [] then .ok acc else
    match rowP ts l with
    | .error e => .error e
    | .ok (r, l1) => rowsP ts k (acc ++ [r]) l1 := by
  conv => lhs; unfold rowsP
  rfl
theorem rowsP_nil (ts : List Nat) (k : Nat) (acc : List (List Int)) : rowsP ts k acc [] = .ok acc := by
  cases k with
  | zero => simp [rowsP]
  | succ k => rw [rowsP_step, if_pos rfl]
theorem rowsP_run (ts : List Nat) (hts : ts ≠ []) : ∀ (R : List (List Int)) (k : Nat) (acc : List (List Int)) (l : List UInt8), (∀ r ∈ R, fitP ts r) → rowsP ts (R.length + k) acc (R.flatMap rowT ++ l) = rowsP ts k (acc ++ R) l := by
  intro R
  induction R with
  | nil => intro k acc l _; simp
  | cons r R ih =>
    intro k acc l h
    have e : (r :: R).length + k = (R.length + k) + 1 := by simp; omega
    rw [e, rowsP_step, if_neg (by simp [rowT_ne]), List.flatMap_cons, List.append_assoc, rowP_run ts r _ hts (h r (by simp))]
    simp only
    rw [ih k _ l (fun x hx => h x (by simp [hx]))]
    simp
theorem rowsP_inv (ts : List Nat) (hts : ts ≠ []) : ∀ (k : Nat) (acc : List (List Int)) (l : List UInt8) (R : List (List Int)), rowsP ts k acc l = .ok R → ∃ R2, R = acc ++ R2 ∧ R2.length ≤ k ∧ (∀ r ∈ R2, fitP ts r) ∧ l = R2.flatMap rowT := by
  intro k
  induction k with
  | zero =>
    intro acc l R h
    simp only [rowsP] at h
    split at h
    · rename_i g; cases h; exact ⟨[], by simp, by simp, by simp, by simpa using g⟩
    · cases h
  | succ k ih =>
    intro acc l R h
    rw [rowsP_step] at h
    split at h
    · rename_i g; cases h; exact ⟨[], by simp, by simp, by simp, by simpa using g⟩
    · cases hr : rowP ts l with
      | error e => rw [hr] at h; cases h
      | ok y =>
        obtain ⟨r, l1⟩ := y
        rw [hr] at h
        obtain ⟨q1, q2⟩ := rowP_inv ts l r l1 hts hr
        obtain ⟨R2, g1, g2, g3, g4⟩ := ih _ _ _ h
        refine ⟨r :: R2, by rw [g1]; simp, by simpa using g2, ?_, by rw [q2, g4]; simp⟩
        intro x hx
        rcases List.mem_cons.1 hx with rfl | hx
        · exact q1
        · exact g3 x hx
end Go.Proofs.YtnhpjacodhdpeaaDoor
