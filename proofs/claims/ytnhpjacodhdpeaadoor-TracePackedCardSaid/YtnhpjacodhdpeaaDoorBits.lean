/-
  Numbers as rows of bits, the lowest first; sums by hand; products row by row.
-/
import Derived.Test.YtnhpjacodhdpeaaDoorProg
import Derived.WalkKit
namespace Go.Proofs.YtnhpjacodhdpeaaDoor.Bits

/-- A row's number. -/
def num : List Int → Int
  | [] => 0
  | b :: l => b + 2 * num l
def All01 (l : List Int) : Prop := ∀ x ∈ l, x = 0 ∨ x = 1

theorem num_snoc (l : List Int) (x : Int) : num (l ++ [x]) = num l + 2 ^ l.length * x := by
  induction l with
  | nil => simp [num]
  | cons b l ih => simp only [List.cons_append, num, ih, List.length_cons, Int.pow_succ]; rw [Int.mul_add, ← Int.mul_assoc, Int.mul_comm 2 (2 ^ l.length)]; omega
theorem num_bd {l : List Int} (h : All01 l) : 0 ≤ num l ∧ num l < 2 ^ l.length := by
  induction l with
  | nil => simp [num]
  | cons b l ih =>
    have h1 := ih (fun x hx => h x (List.mem_cons_of_mem _ hx))
    have h2 := h b (List.mem_cons_self ..)
    simp only [num, List.length_cons, Int.pow_succ]
    omega
theorem getD_01 {l : List Int} (h : All01 l) (i : Nat) : l.getD i 0 = 0 ∨ l.getD i 0 = 1 := by
  by_cases hi : i < l.length
  · have : l.getD i 0 = l[i] := by simp [List.getD, hi]
    rw [this]; exact h _ (List.getElem_mem hi)
  · left; simp [List.getD, hi]
theorem num_take_succ (l : List Int) (i : Nat) (h : i < l.length) : num (l.take (i + 1)) = num (l.take i) + 2 ^ i * l.getD i 0 := by
  rw [List.take_succ_eq_append_getElem h, num_snoc]
  simp [List.getD, h, Nat.min_eq_left (Nat.le_of_lt h)]
theorem num_drop (l : List Int) (i : Nat) (h : i < l.length) : num (l.drop i) = l.getD i 0 + 2 * num (l.drop (i + 1)) := by
  rw [List.drop_eq_getElem_cons h]; simp [num, List.getD, h]
theorem num_split (l : List Int) (i : Nat) (h : i ≤ l.length) : num l = num (l.take i) + 2 ^ i * num (l.drop i) := by
  induction i with
  | zero => simp [num]
  | succ i ih =>
    rw [ih (by omega), num_take_succ l i (by omega), num_drop l i (by omega), Int.mul_add, Int.pow_succ]
    rw [← Int.mul_assoc]; omega

/-- A row by its places. -/
def row (n : Nat) (f : Nat → Int) : List Int := (List.range n).map f
theorem row_length (n : Nat) (f : Nat → Int) : (row n f).length = n := by simp [row]
theorem row_succ (n : Nat) (f : Nat → Int) : row (n + 1) f = row n f ++ [f n] := by simp [row, List.range_succ]
theorem row_getD (n : Nat) (f : Nat → Int) (i : Nat) (h : i < n) : (row n f).getD i 0 = f i := by simp [row, List.getD, h]
theorem row_num_succ (n : Nat) (f : Nat → Int) : num (row (n + 1) f) = num (row n f) + 2 ^ n * f n := by rw [row_succ, num_snoc, row_length]
theorem row_01 {n : Nat} {f : Nat → Int} (h : ∀ i, i < n → f i = 0 ∨ f i = 1) : All01 (row n f) := by
  intro x hx
  simp [row] at hx
  obtain ⟨i, hi, rfl⟩ := hx
  exact h i hi
theorem row_take (n : Nat) (f : Nat → Int) (i : Nat) (h : i ≤ n) : (row n f).take i = row i f := by
  simp [row, ← List.map_take, List.take_range, Nat.min_eq_left h]
theorem row_of (l : List Int) : l = row l.length (fun i => l.getD i 0) := by
  apply List.ext_getElem
  · simp [row]
  · intro i h1 h2; simp [row, List.getD, h1]
theorem row_congr {n : Nat} {f g : Nat → Int} (h : ∀ i, i < n → f i = g i) : row n f = row n g := by
  unfold row; exact List.map_congr_left (fun i hi => h i (by simpa using hi))

/-- A number's bit. -/
def bt (a i : Nat) : Int := ((a / 2 ^ i % 2 : Nat) : Int)
theorem bt_01 (a i : Nat) : bt a i = 0 ∨ bt a i = 1 := by unfold bt; omega
theorem num_bt (a k : Nat) : num (row k (bt a)) = ((a % 2 ^ k : Nat) : Int) := by
  induction k with
  | zero => simp [row, num, Nat.mod_one]
  | succ k ih =>
    rw [row_num_succ, ih, Nat.pow_succ, Nat.mod_mul]
    unfold bt; push_cast; rfl
theorem bt_test (a i : Nat) : bt a i = if a.testBit i then 1 else 0 := by
  unfold bt
  rw [Nat.testBit_eq_decide_div_mod_eq]
  by_cases h : a / 2 ^ i % 2 = 1
  · simp [h]
  · have : a / 2 ^ i % 2 = 0 := by omega
    simp [this]
theorem bt_and (a b i : Nat) : bt (a &&& b) i = bt a i * bt b i := by
  rw [bt_test, bt_test, bt_test, Nat.testBit_and]; cases a.testBit i <;> cases b.testBit i <;> rfl
theorem bt_or (a b i : Nat) : bt (a ||| b) i = (bt a i + bt b i + 1) / 2 := by
  rw [bt_test, bt_test, bt_test, Nat.testBit_or]; cases a.testBit i <;> cases b.testBit i <;> rfl
theorem bt_xor (a b i : Nat) : bt (a ^^^ b) i = (bt a i + bt b i) % 2 := by
  rw [bt_test, bt_test, bt_test, Nat.testBit_xor]; cases a.testBit i <;> cases b.testBit i <;> rfl

/-- Sums by hand. -/
def carry (f g : Nat → Int) (c : Int) : Nat → Int
  | 0 => c
  | i + 1 => (f i + g i + carry f g c i) / 2
def sumAt (f g : Nat → Int) (c : Int) (i : Nat) : Int := (f i + g i + carry f g c i) % 2
theorem carry_01 {f g : Nat → Int} {c : Int} {n : Nat} (hf : ∀ i, i < n → f i = 0 ∨ f i = 1) (hg : ∀ i, i < n → g i = 0 ∨ g i = 1) (hc : c = 0 ∨ c = 1) : ∀ i, i ≤ n → carry f g c i = 0 ∨ carry f g c i = 1 := by
  intro i
  induction i with
  | zero => intro _; exact hc
  | succ i ih =>
    intro h
    have h1 := ih (by omega)
    have h2 := hf i (by omega)
    have h3 := hg i (by omega)
    show (f i + g i + carry f g c i) / 2 = 0 ∨ (f i + g i + carry f g c i) / 2 = 1
    omega
theorem sum_full (f g : Nat → Int) (c : Int) (n : Nat) : num (row n (sumAt f g c)) + 2 ^ n * carry f g c n = num (row n f) + num (row n g) + c := by
  induction n with
  | zero => simp [row, num, carry]
  | succ n ih =>
    rw [row_num_succ, row_num_succ, row_num_succ]
    have e : f n + g n + carry f g c n = 2 * carry f g c (n + 1) + sumAt f g c n := by
      unfold sumAt
      show _ = 2 * ((f n + g n + carry f g c n) / 2) + _
      omega
    have e2 : 2 ^ n * (f n + g n + carry f g c n) = 2 ^ n * (2 * carry f g c (n + 1) + sumAt f g c n) := by rw [e]
    rw [Int.mul_add, Int.mul_add, Int.mul_add] at e2
    rw [Int.pow_succ, Int.mul_assoc]
    omega
theorem sum_01 (f g : Nat → Int) (c : Int) (i : Nat) : sumAt f g c i = 0 ∨ sumAt f g c i = 1 := by unfold sumAt; omega
theorem sum_mod (f g : Nat → Int) (c : Int) (n : Nat) : num (row n (sumAt f g c)) = (num (row n f) + num (row n g) + c) % 2 ^ n := by
  have h1 := sum_full f g c n
  have h2 := num_bd (row_01 (n := n) (fun i _ => sum_01 f g c i))
  rw [row_length] at h2
  rw [← h1, Int.add_mul_emod_self_left]
  exact (Int.emod_eq_of_lt h2.1 h2.2).symm
theorem num_turn (f : Nat → Int) (n : Nat) : num (row n (fun i => 1 - f i)) = 2 ^ n - 1 - num (row n f) := by
  induction n with
  | zero => simp [row, num]
  | succ n ih => rw [row_num_succ, row_num_succ, ih, Int.pow_succ, Int.mul_sub]; omega

/-- A product's row: shifted up by i. -/
def upRow (f : Nat → Int) (i k : Nat) : Int := if k < i then 0 else f (k - i)
theorem num_upRow (f : Nat → Int) (i n : Nat) : num (row (i + n) (upRow f i)) = 2 ^ i * num (row n f) := by
  induction n with
  | zero =>
    have : ∀ j, j ≤ i → num (row j (upRow f i)) = 0 := by
      intro j
      induction j with
      | zero => intro _; simp [row, num]
      | succ j ih => intro h; rw [row_num_succ, ih (by omega)]; unfold upRow; rw [if_pos (by omega)]; simp
    rw [Nat.add_zero, this i (Nat.le_refl _)]; simp [row, num]
  | succ n ih =>
    rw [← Nat.add_assoc, row_num_succ, ih, row_num_succ]
    unfold upRow
    rw [if_neg (by omega), show i + n - i = n by omega, Int.mul_add, Int.pow_add, Int.mul_assoc]
theorem num_row_mod {f : Nat → Int} {n m : Nat} (h : n ≤ m) (hf : ∀ i, i < m → f i = 0 ∨ f i = 1) : num (row n f) = num (row m f) % 2 ^ n := by
  have h1 := num_split (row m f) n (by rw [row_length]; exact h)
  rw [row_take m f n h] at h1
  have h2 := num_bd (row_01 (n := n) (fun i hi => hf i (by omega)))
  rw [row_length] at h2
  rw [h1, Int.add_mul_emod_self_left]
  exact (Int.emod_eq_of_lt h2.1 h2.2).symm
/-- The product after i rows. -/
theorem mul_step {f y : Nat → Int} {out : List Int} {W i : Nat} (hf : ∀ i, i < W → f i = 0 ∨ f i = 1) (hy : y i = 1)
    (ho : num out = (num (row W f) * num (row i y)) % 2 ^ W) (hl : out.length = W) :
    num (row W (sumAt (fun k => out.getD k 0) (upRow f i) 0)) = (num (row W f) * num (row (i + 1) y)) % 2 ^ W := by
  have e1 : num (row W (upRow f i)) = (2 ^ i * num (row W f)) % 2 ^ W := by
    have hu : ∀ k, k < i + W → upRow f i k = 0 ∨ upRow f i k = 1 := by
      intro k hk; unfold upRow; split
      · exact .inl rfl
      · exact hf _ (by omega)
    rw [num_row_mod (m := i + W) (by omega) hu, num_upRow]
  have e2 : row W (fun k => out.getD k 0) = out := by rw [← hl]; exact (row_of out).symm
  rw [sum_mod, e2, e1, ho, row_num_succ, hy, Int.mul_one, Int.add_zero, ← Int.add_emod, Int.mul_add]
  rw [Int.mul_comm (2 ^ i)]

/-- The highest place that differs decides. -/
theorem less_at {x y : List Int} {i : Nat} (hx : All01 x) (hy : All01 y) (hl : x.length = y.length) (hi : i < x.length) (hd : x.drop (i + 1) = y.drop (i + 1)) (h0 : x.getD i 0 = 0) (h1 : y.getD i 0 = 1) : num x < num y := by
  have ex := num_split x i (by omega)
  have ey := num_split y i (by omega)
  rw [num_drop x i hi, h0] at ex
  rw [num_drop y i (by omega), h1, ← hd] at ey
  have bx := num_bd (l := x.take i) (fun z hz => hx z (List.mem_of_mem_take hz))
  have byy := num_bd (l := y.take i) (fun z hz => hy z (List.mem_of_mem_take hz))
  rw [List.length_take, Nat.min_eq_left (by omega)] at bx byy
  rw [Int.mul_add] at ex ey
  omega
theorem drop_eq {x y : List Int} {i : Nat} (hl : x.length = y.length) (hi : i < x.length) (hd : x.drop (i + 1) = y.drop (i + 1)) (h : x.getD i 0 = y.getD i 0) : x.drop i = y.drop i := by
  have hi2 : i < y.length := by omega
  rw [List.drop_eq_getElem_cons hi, List.drop_eq_getElem_cons hi2, hd]
  simp [List.getD, hi, hi2] at h
  rw [h]

end Go.Proofs.YtnhpjacodhdpeaaDoor.Bits
