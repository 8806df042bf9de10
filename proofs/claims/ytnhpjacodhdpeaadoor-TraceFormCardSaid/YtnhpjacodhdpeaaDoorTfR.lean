/-
  A table's text, plainly: there and back; cut short; with a byte behind.
-/
import Derived.Test.YtnhpjacodhdpeaaDoorTfQ
import Derived.Test.YtnhpjacodhdpeaaDoorTrN
namespace Go.Proofs.YtnhpjacodhdpeaaDoor
open Bits
set_option maxRecDepth 100000

theorem okL_iff : ∀ (L acc : List TB), okL acc L ↔ ∀ i, i < L.length → okOne (acc ++ L.take i) (L.getD i tb0) := by
  intro L
  induction L with
  | nil => intro acc; simp [okL]
  | cons B L ih =>
    intro acc
    unfold okL
    rw [ih]
    constructor
    · rintro ⟨h1, h2⟩ i hi
      cases i with
      | zero => simpa using h1
      | succ i => have := h2 i (by simpa using hi); simpa using this
    · intro h
      refine ⟨by simpa using h 0 (by simp), fun i hi => ?_⟩
      have := h (i + 1) (by simpa using hi)
      simpa using this
theorem busesT_iff (L : List TB) : busesT L = true ↔ L ≠ [] ∧ L.length ≤ 512 ∧ okL [] L := by
  unfold busesT
  rw [okL_iff]
  constructor
  · intro h
    simp only [Bool.and_eq_true, decide_eq_true_eq] at h
    obtain ⟨⟨h1, h2⟩, h3⟩ := h
    refine ⟨by intro e; subst e; simp at h1, h2, fun i hi => ?_⟩
    have := range_of h3 i hi
    simp only [busT, Bool.and_eq_true] at this
    exact ⟨this.1.1, this.1.2, by simpa [Option.isNone_iff_eq_none] using this.2⟩
  · rintro ⟨h1, h2, h3⟩
    have h0 : 1 ≤ L.length := by
      cases L with
      | nil => exact absurd rfl h1
      | cons _ _ => simp
    simp only [Bool.and_eq_true, decide_eq_true_eq]
    refine ⟨⟨h0, h2⟩, range_all fun i hi => ?_⟩
    obtain ⟨g1, g2, g3⟩ := h3 i hi
    simp only [List.nil_append] at g3
    simp only [busT, g1, g2, g3, Option.isNone_none, Bool.and_self]
theorem fitP_iff : ∀ (m : List Int) (r : List Int), (∀ t ∈ m, 0 ≤ t) → (fitP (m.map Int.toNat) r ↔ (fitsL r m = true ∧ ∀ z ∈ r, 0 ≤ z)) := by
  intro m
  induction m with
  | nil =>
    intro r _
    cases r with
    | nil => simp [fitP, fitsL]
    | cons z r => simp [fitP, fitsL]
  | cons t m ih =>
    intro r hm
    cases r with
    | nil => simp [fitP, fitsL]
    | cons z r =>
      have h0 : (0 : Int) ≤ t := hm t (by simp)
      have := ih r (fun x hx => hm x (by simp [hx]))
      simp only [List.map_cons, fitP]
      rw [this]
      unfold fitsL
      simp only [Bool.and_eq_true, decide_eq_true_eq, List.length_cons, Nat.add_right_cancel_iff]
      constructor
      · rintro ⟨g0, g1, ⟨g2, g3⟩, g4⟩
        refine ⟨⟨g2, range_all fun i hi => ?_⟩, ?_⟩
        · cases i with
          | zero => simp; omega
          | succ i => have := range_of g3 i (by omega); simpa using this
        · intro x hx
          rcases List.mem_cons.1 hx with rfl | hx
          · exact g0
          · exact g4 x hx
      · rintro ⟨⟨g2, g3⟩, g4⟩
        refine ⟨g4 z (by simp), ?_, ⟨g2, range_all fun i hi => ?_⟩, fun x hx => g4 x (by simp [hx])⟩
        · have := range_of g3 0 (by omega)
          simp at this
          omega
        · have := range_of g3 (i + 1) (by omega)
          simpa using this
theorem tops_nn (L : List TB) : ∀ t ∈ tops L, 0 ≤ t := by
  intro t ht
  obtain ⟨b, -, rfl⟩ := List.mem_map.1 ht
  exact (topT_bd b.width).1
/-- All rows are numbers. -/
def NN (R : List (List Int)) : Prop := ∀ r ∈ R, ∀ z ∈ r, 0 ≤ z
theorem mayT_iff (L : List TB) (R : List (List Int)) : (mayT L R = true ∧ NN R) ↔ (L ≠ [] ∧ L.length ≤ 512 ∧ okL [] L) ∧ R.length ≤ 4096 ∧ ∀ r ∈ R, fitP ((tops L).map Int.toNat) r := by
  unfold mayT NN
  simp only [Bool.and_eq_true, decide_eq_true_eq, busesT_iff]
  constructor
  · rintro ⟨⟨⟨h1, h2⟩, h3⟩, h4⟩
    refine ⟨h1, h2, fun r hr => (fitP_iff _ _ (tops_nn L)).2 ⟨?_, h4 r hr⟩⟩
    obtain ⟨i, hi, rfl⟩ := List.getElem_of_mem hr
    have := range_of h3 i hi
    simpa [List.getD, hi] using this
  · rintro ⟨h1, h2, h3⟩
    refine ⟨⟨⟨h1, h2⟩, range_all fun i hi => ?_⟩, fun r hr => ((fitP_iff _ _ (tops_nn L)).1 (h3 r hr)).2⟩
    have := ((fitP_iff _ _ (tops_nn L)).1 (h3 _ (List.getElem_mem hi))).1
    simpa [List.getD, hi] using this
theorem tops_ne {L : List TB} (h : L ≠ []) : (tops L).map Int.toNat ≠ [] := by
  simp [tops, h]

theorem tableP_run {L : List TB} {R : List (List Int)} (h : mayT L R = true) (hn : NN R) (Q : List UInt8) : tableP (putT L R ++ Q) = match rowsP ((tops L).map Int.toNat) (4096 - R.length) R Q with
    | .error e => .error e
    | .ok R => .ok (L, R) := by
  obtain ⟨⟨h1, h2, h3⟩, h4, h5⟩ := (mayT_iff L R).1 ⟨h, hn⟩
  unfold tableP putT
  rw [List.append_assoc, busesP_run L 512 [] _ h1 h2 h3]
  simp only [List.nil_append]
  have e : 4096 = R.length + (4096 - R.length) := by omega
  rw [show rowsP ((tops L).map Int.toNat) 4096 [] (R.flatMap rowT ++ Q) = rowsP ((tops L).map Int.toNat) (R.length + (4096 - R.length)) [] (R.flatMap rowT ++ Q) from congrArg (fun k => rowsP ((tops L).map Int.toNat) k [] (R.flatMap rowT ++ Q)) e, rowsP_run _ (tops_ne h1) R _ [] Q h5]
  rfl
/-- A table is read as it was. -/
theorem tableP_put {L : List TB} {R : List (List Int)} (h : mayT L R = true) (hn : NN R) : tableP (putT L R) = .ok (L, R) := by
  have := tableP_run h hn []
  rw [List.append_nil, rowsP_nil] at this
  exact this
/-- With a byte behind that no number begins with. -/
theorem tableP_dash {L : List TB} {R : List (List Int)} (h : mayT L R = true) (hn : NN R) : tableP (putT L R ++ [45]) = .error 5 := by
  rw [tableP_run h hn]
  obtain ⟨⟨h1, h2, h3⟩, h4, h5⟩ := (mayT_iff L R).1 ⟨h, hn⟩
  obtain ⟨t, ts, e⟩ := List.exists_cons_of_ne_nil (tops_ne h1)
  rw [e]
  cases hk : 4096 - R.length with
  | zero => simp [rowsP]
  | succ k =>
    rw [rowsP_step, if_neg (by simp), rowP_cons, numP_cons, if_pos (.inl (by decide)), if_neg (by decide)]
/-- What is read is so written. -/
theorem tableP_inv {l : List UInt8} {L : List TB} {R : List (List Int)} (h : tableP l = .ok (L, R)) : mayT L R = true ∧ NN R ∧ putT L R = l := by
  unfold tableP at h
  cases hb : busesP 512 [] l with
  | error e => rw [hb] at h; cases h
  | ok y =>
    obtain ⟨L', l1⟩ := y
    rw [hb] at h
    obtain ⟨L2, g1, g2, g3, g4, g5⟩ := busesP_inv 512 [] l L' l1 hb
    simp only [List.nil_append] at g1
    subst g1
    simp only at h
    cases hr : rowsP ((tops L').map Int.toNat) 4096 [] l1 with
    | error e => rw [hr] at h; cases h
    | ok R' =>
      rw [hr] at h
      cases h
      obtain ⟨R2, q1, q2, q3, q4⟩ := rowsP_inv _ (tops_ne g2) 4096 [] l1 R hr
      simp only [List.nil_append] at q1
      subst q1
      have := (mayT_iff L R).2 ⟨⟨g2, g3, g4⟩, q2, q3⟩
      exact ⟨this.1, this.2, by unfold putT; rw [g5, q4]⟩

/-- Where a text of lines is cut. -/
theorem lines_cut : ∀ (ls : List (List UInt8)), (∀ q ∈ ls, ∃ p, q = p ++ [10] ∧ ∀ c ∈ p, c ≠ 10) → ∀ k, ∃ j Q, j ≤ ls.length ∧ ls.flatten.take k = (ls.take j).flatten ++ Q ∧ (∀ c ∈ Q, c ≠ 10) ∧ (Q = [] ∨ ∃ Q2, Q2 ≠ [] ∧ ls[j]? = some (Q ++ Q2)) ∧ (j = 0 → Q = [] → k = 0 ∨ ls = []) := by
  intro ls
  induction ls with
  | nil => intro _ k; exact ⟨0, [], by simp, by simp, by simp, .inl rfl, fun _ _ => .inr rfl⟩
  | cons q ls ih =>
    intro h k
    obtain ⟨p, hp, hno⟩ := h q (by simp)
    have hql : q.length = p.length + 1 := by rw [hp]; simp
    by_cases hk : k < q.length
    · refine ⟨0, q.take k, by simp, ?_, ?_, ?_, ?_⟩
      · rw [List.flatten_cons, List.take_append_of_le_length (by omega)]; simp
      · intro c hc
        rw [hp, List.take_append_of_le_length (by omega)] at hc
        exact hno c (List.mem_of_mem_take hc)
      · refine .inr ⟨q.drop k, ?_, by simp⟩
        intro e
        have := congrArg List.length e
        simp at this
        omega
      · intro _ e
        left
        have := congrArg List.length e
        simp at this
        rcases this with h0 | h0
        · exact h0
        · rw [h0] at hql; simp at hql
    · obtain ⟨j, Q, h1, h2, h3, h4, h5⟩ := ih (fun x hx => h x (by simp [hx])) (k - q.length)
      refine ⟨j + 1, Q, by simpa using h1, ?_, h3, by simpa using h4, by omega⟩
      rw [List.flatten_cons, List.take_append, List.take_of_length_le (by omega), h2]
      simp
theorem count_lines : ∀ (ls : List (List UInt8)), (∀ q ∈ ls, ∃ p, q = p ++ [10] ∧ ∀ c ∈ p, c ≠ 10) → ls.flatten.count 10 = ls.length := by
  intro ls
  induction ls with
  | nil => intro _; rfl
  | cons q ls ih =>
    intro h
    obtain ⟨p, hp, hno⟩ := h q (by simp)
    rw [List.flatten_cons, List.count_append, ih (fun x hx => h x (by simp [hx])), hp, List.count_append, List.count_eq_zero.2 (fun hm => hno 10 hm rfl)]
    simp; omega
theorem last_lines {ls : List (List UInt8)} (h : ∀ q ∈ ls, ∃ p, q = p ++ [10] ∧ ∀ c ∈ p, c ≠ 10) (h0 : ls ≠ []) : ls.flatten.getLast? = some 10 := by
  obtain ⟨q, rs, rfl⟩ : ∃ q rs, ls = rs ++ [q] := ⟨ls.getLast h0, ls.dropLast, (List.dropLast_concat_getLast h0).symm⟩
  obtain ⟨p, hp, -⟩ := h q (by simp)
  rw [List.flatten_append]
  simp [hp]

theorem wordsT_no {ws : List (List UInt8)} (h : ∀ x ∈ ws, ∀ c ∈ x, c ≠ 10) : ∃ p, lineT ws = p ++ [10] ∧ ∀ c ∈ p, c ≠ 10 := by
  refine ⟨(wordsT ws).dropLast, rfl, fun c hc => ?_⟩
  have := (List.dropLast_sublist _).subset hc
  unfold wordsT at this
  obtain ⟨x, hx, hcx⟩ := List.mem_flatMap.1 this
  rcases List.mem_append.1 hcx with hcx | hcx
  · exact h x hx c hcx
  · simp at hcx; subst hcx; decide
theorem numW_no (z : Int) : ∀ c ∈ numW z, c ≠ 10 := (DN.hex z.toNat).no (by decide)
theorem busW_no {acc : List TB} {B : TB} (h : okOne acc B) : ∀ c ∈ busW B, c ≠ 10 := by
  obtain ⟨s1, -, -⟩ := h.spell
  obtain ⟨w1, w2⟩ := h.wide
  intro c hc
  unfold busW at hc
  rcases List.mem_append.1 hc with hc | hc
  · rcases List.mem_append.1 hc with hc | hc
    · exact spell_no c (List.all_eq_true.1 s1 c hc)
    · simp at hc; subst hc; decide
  · exact (DN.dec B.width.toNat (by omega)).no (by decide) c hc
theorem okL_mem : ∀ (L acc : List TB), okL acc L → ∀ B ∈ L, ∃ acc', okOne acc' B := by
  intro L
  induction L with
  | nil => intro acc _ B hB; simp at hB
  | cons C L ih =>
    intro acc h B hB
    rcases List.mem_cons.1 hB with rfl | hB
    · exact ⟨acc, h.1⟩
    · exact ih _ h.2 B hB
theorem put_lines (L : List TB) (R : List (List Int)) : putT L R = (headT L :: R.map rowT).flatten := by
  unfold putT
  rw [List.flatten_cons, List.flatMap_def]
theorem lines_ok {L : List TB} {R : List (List Int)} (h : mayT L R = true) (hn : NN R) : ∀ q ∈ headT L :: R.map rowT, ∃ p, q = p ++ [10] ∧ ∀ c ∈ p, c ≠ 10 := by
  obtain ⟨⟨h1, h2, h3⟩, h4, h5⟩ := (mayT_iff L R).1 ⟨h, hn⟩
  intro q hq
  rcases List.mem_cons.1 hq with rfl | hq
  · refine wordsT_no fun x hx => ?_
    obtain ⟨B, hB, rfl⟩ := List.mem_map.1 hx
    obtain ⟨acc, ho⟩ := okL_mem L [] h3 B hB
    exact busW_no ho
  · obtain ⟨r, -, rfl⟩ := List.mem_map.1 hq
    refine wordsT_no fun x hx => ?_
    obtain ⟨z, -, rfl⟩ := List.mem_map.1 hx
    exact numW_no z
theorem mayT_pre {L : List TB} {R : List (List Int)} (h : mayT L R = true) (hn : NN R) (j : Nat) : mayT L (R.take j) = true ∧ NN (R.take j) := by
  obtain ⟨h1, h4, h5⟩ := (mayT_iff L R).1 ⟨h, hn⟩
  exact (mayT_iff L (R.take j)).2 ⟨h1, by rw [List.length_take]; omega, fun r hr => h5 r (List.mem_of_mem_take hr)⟩
/-- Cut short. -/
theorem tableP_cut {L : List TB} {R : List (List Int)} (h : mayT L R = true) (hn : NN R) (k : Nat) (hk : k < (putT L R).length) :
    (((putT L R).take k).getLast? = some 10 → 1 ≤ ((putT L R).take k).count 10 ∧ ((putT L R).take k).count 10 - 1 ≤ R.length ∧ tableP ((putT L R).take k) = .ok (L, R.take (((putT L R).take k).count 10 - 1))) ∧
    (((putT L R).take k).getLast? ≠ some 10 → tableP ((putT L R).take k) = .error 4) := by
  have hl := lines_ok h hn
  obtain ⟨j, Q, h1, h2, h3, h4, h5⟩ := lines_cut _ hl k
  rw [← put_lines] at h2
  have hl2 : ∀ q ∈ (headT L :: R.map rowT).take j, ∃ p, q = p ++ [10] ∧ ∀ c ∈ p, c ≠ 10 := fun q hq => hl q (List.mem_of_mem_take hq)
  have hj : ((headT L :: R.map rowT).take j).length = j := by rw [List.length_take]; omega
  have hc : ((putT L R).take k).count 10 = j := by
    rw [h2, List.count_append, count_lines _ hl2, hj, List.count_eq_zero.2 (fun hm => h3 10 hm rfl)]; rfl
  have hjl : j ≤ R.length + 1 := by simpa using h1
  cases j with
  | zero =>
    have e0 : (putT L R).take k = Q := by rw [h2]; simp
    have hne : ((putT L R).take k).getLast? ≠ some 10 := by
      rw [e0]
      intro e
      exact h3 10 (List.mem_of_getLast? e) rfl
    refine ⟨fun e => absurd e hne, fun _ => ?_⟩
    rw [e0]
    rcases h4 with rfl | ⟨Q2, hq2, h4⟩
    · rfl
    · have h4 : headT L = Q ++ Q2 := by simpa using h4
      obtain ⟨⟨g1, g2, g3⟩, -, -⟩ := (mayT_iff L R).1 ⟨h, hn⟩
      have hr := busesP_run L 512 [] [] g1 g2 g3
      rw [List.append_nil, h4] at hr
      rcases busesP_split 512 [] Q Q2 _ _ hr with hb | ⟨P1, -, e⟩
      · unfold tableP; rw [hb]
      · have := congrArg List.length e
        have hq3 : 0 < Q2.length := List.length_pos_iff.2 hq2
        simp at this
        omega
  | succ j =>
    have e0 : ((headT L :: R.map rowT).take (j + 1)).flatten = putT L (R.take j) := by
      rw [put_lines, List.take_succ_cons, List.map_take]
    obtain ⟨m1, m2⟩ := mayT_pre h hn j
    rw [e0] at h2
    have hjj : j ≤ R.length := by omega
    rcases h4 with rfl | ⟨Q2, hq2, h4⟩
    · rw [List.append_nil] at h2
      have hlast : ((putT L R).take k).getLast? = some 10 := by
        rw [h2, ← e0]
        exact last_lines hl2 (by simp)
      refine ⟨fun _ => ⟨by omega, by omega, ?_⟩, fun e => absurd hlast e⟩
      rw [hc, h2]
      exact tableP_put m1 m2
    · have hQ : Q ≠ [] ∨ Q = [] := by by_cases e : Q = []; exact .inr e; exact .inl e
      rcases hQ with hQ | hQ
      · have hne : ((putT L R).take k).getLast? ≠ some 10 := by
          rw [h2, List.getLast?_append]
          intro e
          cases hq : Q.getLast? with
          | none => exact hQ (List.getLast?_eq_none_iff.1 hq)
          | some c =>
            rw [hq] at e
            simp at e
            exact h3 c (List.mem_of_getLast? hq) e
        refine ⟨fun e => absurd e hne, fun _ => ?_⟩
        rw [h2, tableP_run m1 m2]
        obtain ⟨⟨g1, g2, g3⟩, g4, g5⟩ := (mayT_iff L R).1 ⟨h, hn⟩
        have hlt : j < R.length := by
          have := (List.getElem?_eq_some_iff.1 h4).1
          simpa using this
        have h4 : rowT R[j] = Q ++ Q2 := by
          have := h4
          simpa [hlt] using this
        have hlen : (R.take j).length = j := by rw [List.length_take]; omega
        obtain ⟨m, hm⟩ : ∃ m, 4096 - (R.take j).length = m + 1 := ⟨4096 - j - 1, by omega⟩
        rw [hm, rowsP_step, if_neg hQ]
        have hr := rowP_run _ R[j] [] (tops_ne g1) (g5 _ (List.getElem_mem hlt))
        rw [List.append_nil, h4] at hr
        rcases rowP_split _ Q Q2 _ _ hr with hb | ⟨P1, -, e⟩
        · rw [hb]
        · have := congrArg List.length e
          have hq3 : 0 < Q2.length := List.length_pos_iff.2 hq2
          simp at this
          omega
      · subst hQ
        rw [List.append_nil] at h2
        have hlast : ((putT L R).take k).getLast? = some 10 := by
          rw [h2, ← e0]
          exact last_lines hl2 (by simp)
        refine ⟨fun _ => ⟨by omega, by omega, ?_⟩, fun e => absurd hlast e⟩
        rw [hc, h2]
        exact tableP_put m1 m2

/-- Only these errors. -/
theorem numP_err {B least most : Nat} : ∀ (l : List UInt8) (k n e : Nat), numP B least most k n l = .error e → e = 4 ∨ e = 5 := by
  intro l
  induction l with
  | nil => intro k n e h; rw [numP_nil] at h; cases h; exact .inl rfl
  | cons c l ih =>
    intro k n e h
    rw [numP_cons] at h
    split at h
    · split at h <;> cases h; exact .inr rfl
    · split at h
      · exact ih _ _ _ h
      · cases h; exact .inr rfl
theorem nameP_err : ∀ (l acc : List UInt8) (e : Nat), nameP acc l = .error e → e = 4 ∨ e = 5 := by
  intro l
  induction l with
  | nil => intro acc e h; rw [nameP_nil] at h; cases h; exact .inl rfl
  | cons c l ih =>
    intro acc e h
    rw [nameP_cons] at h
    split at h
    · split at h
      · exact ih _ _ h
      · cases h; exact .inr rfl
    · split at h <;> cases h; exact .inr rfl
theorem busP_err {acc : List TB} {l : List UInt8} {e : Nat} (h : busP acc l = .error e) : e = 4 ∨ e = 5 := by
  unfold busP at h
  cases hn : nameP [] l with
  | error x => rw [hn] at h; cases h; exact nameP_err _ _ _ hn
  | ok y =>
    rw [hn] at h
    simp only at h
    split at h
    · cases h; exact .inr rfl
    · cases hm : numP 10 1 64 0 0 y.2 with
      | error x => rw [hm] at h; cases h; exact numP_err _ _ _ _ hm
      | ok z =>
        rw [hm] at h
        simp only at h
        split at h <;> cases h; exact .inr rfl
theorem busesP_err : ∀ (k : Nat) (acc : List TB) (l : List UInt8) (e : Nat), busesP k acc l = .error e → e = 4 ∨ e = 5 := by
  intro k
  induction k with
  | zero => intro acc l e h; unfold busesP at h; cases h; exact .inr rfl
  | succ k ih =>
    intro acc l e h
    unfold busesP at h
    cases hb : busP acc l with
    | error x => rw [hb] at h; cases h; exact busP_err hb
    | ok y =>
      rw [hb] at h
      simp only at h
      split at h
      · exact ih _ _ _ h
      · cases h
theorem rowP_err : ∀ (ts : List Nat) (l : List UInt8) (e : Nat), rowP ts l = .error e → e = 4 ∨ e = 5 := by
  intro ts
  induction ts with
  | nil => intro l e h; rw [rowP_nil] at h; cases h
  | cons t ts ih =>
    intro l e h
    rw [rowP_cons] at h
    cases hm : numP 16 0 t 0 0 l with
    | error x => rw [hm] at h; cases h; exact numP_err _ _ _ _ hm
    | ok z =>
      rw [hm] at h
      obtain ⟨⟨n, b⟩, l1⟩ := z
      simp only at h
      by_cases g2 : (if ts = [] then b = 10 else b = 32)
      · rw [if_pos g2] at h
        cases hr : rowP ts l1 with
        | error x => rw [hr] at h; cases h; exact ih _ _ hr
        | ok y => rw [hr] at h; cases h
      · rw [if_neg g2] at h; cases h; exact .inr rfl
theorem rowsP_err (ts : List Nat) : ∀ (k : Nat) (acc : List (List Int)) (l : List UInt8) (e : Nat), rowsP ts k acc l = .error e → e = 4 ∨ e = 5 := by
  intro k
  induction k with
  | zero =>
    intro acc l e h
    simp only [rowsP] at h
    split at h <;> cases h; exact .inr rfl
  | succ k ih =>
    intro acc l e h
    rw [rowsP_step] at h
    split at h
    · cases h
    · cases hr : rowP ts l with
      | error x => rw [hr] at h; cases h; exact rowP_err _ _ _ hr
      | ok y => rw [hr] at h; exact ih _ _ _ h
theorem tableP_err {l : List UInt8} {e : Nat} (h : tableP l = .error e) : e = 4 ∨ e = 5 := by
  unfold tableP at h
  cases hb : busesP 512 [] l with
  | error x => rw [hb] at h; cases h; exact busesP_err _ _ _ _ hb
  | ok y =>
    rw [hb] at h
    simp only at h
    cases hr : rowsP ((tops y.1).map Int.toNat) 4096 [] y.2 with
    | error x => rw [hr] at h; cases h; exact rowsP_err _ _ _ _ _ hr
    | ok R => rw [hr] at h; cases h
end Go.Proofs.YtnhpjacodhdpeaaDoor
