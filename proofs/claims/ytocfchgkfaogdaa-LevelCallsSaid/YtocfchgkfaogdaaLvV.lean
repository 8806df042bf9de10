/-
  Calls on rows that are written out; wakes: what the document's examples say.
-/
import Derived.Test.YtocfchgkfaogdaaLvG
namespace Go.Proofs.Ytocfchgkfaogdaa
open Go.RowKit Go.Maps
set_option maxRecDepth 100000

def allocs (w : World) : List (List Int) → World
  | [] => w
  | [] :: r => allocs w r
  | (x :: xs) :: r => allocs (w.alloc (.cells (ints (x :: xs)).toArray 3)) r
def addrs (z : Nat) : List (List Int) → List (Option Addr × Nat × List Int)
  | [] => []
  | [] :: r => (none, 0, []) :: addrs z r
  | (x :: xs) :: r => (some ⟨z, 0, none⟩, (x :: xs).length, x :: xs) :: addrs (z + 1) r
def cntA (z : Nat) : List (List Int) → Nat
  | [] => z
  | [] :: r => cntA z r
  | (_ :: _) :: r => cntA (z + 1) r
def litW (w : World) (N : List (List Int)) : World := (allocs w N).alloc (.cells ((addrs w.heap.size N).map (fun v => Value.slice v.1 v.2.2.length v.2.1)).toArray 23)
theorem allocs_below : ∀ (N : List (List Int)) (w : World), Below w.heap.size w (allocs w N)
  | [], w => Below.refl _ _
  | [] :: r, w => allocs_below r w
  | (x :: xs) :: r, w => nextw ((Below.refl w.heap.size w).alloc (Nat.le_refl _) _) (allocs_below r _)
theorem allocs_size : ∀ (N : List (List Int)) (w : World), (allocs w N).heap.size = cntA w.heap.size N
  | [], w => rfl
  | [] :: r, w => allocs_size r w
  | (x :: xs) :: r, w => by
    have := allocs_size r (w.alloc (.cells (ints (x :: xs)).toArray 3))
    rw [show (w.alloc (.cells (ints (x :: xs)).toArray 3)).heap.size = w.heap.size + 1 by simp] at this
    exact this
theorem addrs_rows : ∀ (N : List (List Int)) (w : World), (∀ r ∈ N, r.length ≤ 1000) → ∀ v ∈ addrs w.heap.size N, Row .i64 (allocs w N) v.1 v.2.2.length v.2.2 ∧ v.2.2.length ≤ v.2.1 ∧ v.2.1 ≤ 1000
  | [], w, _, v, hv => by simp [addrs] at hv
  | [] :: r, w, h, v, hv => by
    rcases List.mem_cons.1 hv with rfl | hv
    · exact ⟨Row.nil _ _ _, by simp, by simp⟩
    · exact addrs_rows r w (fun r hr => h r (by simp [hr])) v hv
  | (x :: xs) :: r, w, h, v, hv => by
    have hx := h (x :: xs) (by simp)
    rcases List.mem_cons.1 hv with rfl | hv
    · exact ⟨(lit_row w (x :: xs) hx).step (allocs_below r _), Nat.le_refl _, hx⟩
    · have := addrs_rows r (w.alloc (.cells (ints (x :: xs)).toArray 3)) (fun r hr => h r (by simp [hr])) v
      rw [show (w.alloc (.cells (ints (x :: xs)).toArray 3)).heap.size = w.heap.size + 1 by simp] at this
      exact this hv
theorem addrs_map : ∀ (N : List (List Int)) (z : Nat), (addrs z N).map (·.2.2) = N
  | [], z => rfl
  | [] :: r, z => by show [] :: (addrs z r).map (·.2.2) = _; rw [addrs_map r z]
  | (x :: xs) :: r, z => by show (x :: xs) :: (addrs (z + 1) r).map (·.2.2) = _; rw [addrs_map r (z + 1)]
theorem litW_below (w : World) (N : List (List Int)) : Below w.heap.size w (litW w N) := nextw (allocs_below N w) ((Below.refl _ _).alloc (Nat.le_refl _) _)
theorem lits (w : World) (N : List (List Int)) (h1 : N.length ≤ 1000) (h2 : ∀ r ∈ N, r.length ≤ 1000) : RR (litW w N) (some ⟨cntA w.heap.size N, 0, none⟩) N.length N := by
  have hl : (addrs w.heap.size N).length = N.length := by have := congrArg List.length (addrs_map N w.heap.size); simpa using this
  have h := lit_rr (allocs w N) (addrs w.heap.size N) (by omega) (addrs_rows N w h2)
  rw [addrs_map, hl, allocs_size] at h
  exact h
theorem getD_le {N : List (List Int)} (h2 : ∀ r ∈ N, r.length ≤ 1000) : ∀ i, (N.getD i []).length ≤ 1000 := fun i => by
  by_cases hi : i < N.length
  · have : N.getD i [] = N[i] := by simp [List.getD, hi]
    rw [this]; exact h2 _ (List.getElem_mem hi)
  · rw [show N.getD i [] = [] by rw [List.getD_eq_getElem?_getD, List.getElem?_eq_none (by omega)]; rfl]; simp
theorem order_lit (w : World) (N : List (List Int)) (h : (decide (N.length ≤ 1000) && N.all (fun r => decide (r.length ≤ 1000))) = true) {E : Int} {L : List Int} (hE : ordE N = E) (hL : ordL N = L) :
    Calls Try.prog 10 #[.slice (some ⟨cntA w.heap.size N, 0, none⟩) N.length N.length] (litW w N) fun e w' => ∃ (va : Option Addr) (ca : Nat), e = .returned (.tuple #[.slice va L.length ca, .int .i64 E]) ∧ Row .i64 w' va L.length L ∧ Below w.heap.size w w' := by
  simp only [Bool.and_eq_true, decide_eq_true_eq, List.all_eq_true] at h
  refine (Order_any (lits w N h.1 h.2) h.1 (getD_le h.2) _).mono ?_
  rintro e w' ⟨va, ca, rfl, hrow, hb⟩
  rw [hE, hL] at *
  have hle : L.length ≤ 9223372036854775807 := by have := own_cap hrow; omega
  exact ⟨va, ca, rfl, Row.of_own hrow rfl hle, nextw (litW_below w N) hb⟩
theorem depth_lit (w : World) (N : List (List Int)) (h : (decide (N.length ≤ 1000) && N.all (fun r => decide (r.length ≤ 1000))) = true) {E : Int} {L : List Int} (hE : ordE N = E) (hL : depL N = L) :
    Calls Try.prog 12 #[.slice (some ⟨cntA w.heap.size N, 0, none⟩) N.length N.length] (litW w N) fun e w' => ∃ (va : Option Addr) (ca : Nat), e = .returned (.tuple #[.slice va L.length ca, .int .i64 E]) ∧ Row .i64 w' va L.length L ∧ Below w.heap.size w w' := by
  simp only [Bool.and_eq_true, decide_eq_true_eq, List.all_eq_true] at h
  refine (Depth_any (lits w N h.1 h.2) h.1 (getD_le h.2) _).mono ?_
  rintro e w' ⟨va, ca, rfl, hrow, hb⟩
  rw [hE, hL] at *
  have hle : L.length ≤ 9223372036854775807 := by have := own_cap hrow; omega
  exact ⟨va, ca, rfl, Row.of_own hrow rfl hle, nextw (litW_below w N) hb⟩
theorem round_lit (w : World) (N : List (List Int)) (h : (decide (N.length ≤ 1000) && N.all (fun r => decide (r.length ≤ 1000))) = true) {L : List Nat} {b : Bool} (hL : rndN N = L) (hb0 : decide (0 < L.length) = b) :
    Calls Try.prog 14 #[.slice (some ⟨cntA w.heap.size N, 0, none⟩) N.length N.length] (litW w N) fun e w' => ∃ (va : Option Addr) (ca : Nat), e = .returned (.tuple #[.slice va L.length ca, .bool b]) ∧ Row .i64 w' va L.length (iz L) ∧ Below w.heap.size w w' := by
  simp only [Bool.and_eq_true, decide_eq_true_eq, List.all_eq_true] at h
  refine (Round_any (lits w N h.1 h.2) h.1 (getD_le h.2) _).mono ?_
  rintro e w' ⟨va, ca, rfl, hrow, -, -, hb⟩
  rw [hL] at *
  rw [hb0]
  exact ⟨va, ca, rfl, hrow, nextw (litW_below w N) hb⟩
/-- Two rows compared, one of them written out. -/
theorem equal_lit {w : World} {a : Option Addr} {n : Nat} {l : List Int} (ha : Row .i64 w a n l) (c : Nat) (xs : List Int) (hx : decide (xs.length ≤ 1000) = true) {b : Bool} (hb : decide (l = xs) = b) :
    Calls Try.prog 18 #[.slice a n c, .slice (some ⟨w.heap.size, 0, none⟩) xs.length xs.length] (w.alloc (.cells (ints xs).toArray 3)) fun e w' => e = .returned (.bool b) ∧ Below w.heap.size w w' := by
  have hba : Below w.heap.size w (w.alloc (.cells (ints xs).toArray 3)) := (Below.refl _ _).alloc (Nat.le_refl _) _
  refine (equal_any (ha.step hba) (lit_row w xs (by simpa using hx)) c _).mono ?_
  rintro e w' ⟨rfl, hb2⟩
  rw [hb]
  exact ⟨rfl, nextw hba hb2⟩

end Go.Proofs.Ytocfchgkfaogdaa
