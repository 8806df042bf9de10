/-
  Depths plainly; layers plainly; rows put together, one stored anew; what LevelDepth's own function tells.
-/
import Derived.Test.YtocfchgkfaogdaaLoV
namespace Go.Proofs.Ytocfchgkfaogdaa
open Go.RowKit Go.Maps
set_option maxRecDepth 100000

/-- A box of one cell. -/
theorem box1 {w w1 : World} {x : Value} {T : Nat} (hb : Below (w.alloc (.cells #[x] T)).heap.size (w.alloc (.cells #[x] T)) w1) :
    Below w.heap.size w w1 ∧ w.heap.size < w1.heap.size ∧ w1.cell? ⟨w.heap.size, 0, none⟩ = some x :=
  ⟨nextb ((Below.refl _ _).alloc (Nat.le_refl _) _) (by simp) hb, by have := hb.size; simp at this; omega, stepc hb (by simp) (by simp)⟩
theorem told_full {N : List (List Int)} (h : ∀ i, ∀ k ∈ nd N i, k < i) : (told N).length = N.length := by
  have key : ∀ i, i < N.length → i ∈ told N := by
    intro i
    induction i using Nat.strongRecOn with
    | ind i ih =>
      intro hi
      by_cases hm : i ∈ told N
      · exact hm
      · have hf : free N (told N) i = true := free_iff.2 ⟨hm, fun k hk => ih k (h i k hk) (by have := h i k hk; omega)⟩
        have := nxt_none.1 (told_end N) i hi
        rw [hf] at this; cases this
  have h1 := sub_len (List.range N.length) (told N) List.nodup_range (fun i hi => key i (by simpa using hi))
  have h2 := (told_tld N).len
  simp at h1; omega

def mxd (d : List Int) (l : List Nat) (b : Int) : Int := l.foldl (fun m k => max m (d.getD k 0 + 1)) b
theorem mxd_congr {d d' : List Int} : ∀ (l : List Nat) (b : Int), (∀ k ∈ l, d.getD k 0 = d'.getD k 0) → mxd d l b = mxd d' l b
  | [], _, _ => rfl
  | k :: l, b, h => by
    show mxd d l (max b (d.getD k 0 + 1)) = mxd d' l (max b (d'.getD k 0 + 1))
    rw [h k (by simp)]
    exact mxd_congr l _ (fun k hk => h k (by simp [hk]))
theorem mxd_le {d : List Int} {M : Int} : ∀ (l : List Nat) (b : Int), b ≤ M → (∀ k ∈ l, d.getD k 0 + 1 ≤ M) → mxd d l b ≤ M
  | [], _, h, _ => h
  | k :: l, b, h, hl => mxd_le l (max b (d.getD k 0 + 1)) (by have := hl k (by simp); omega) (fun k hk => hl k (by simp [hk]))
theorem mxd_ge {d : List Int} : ∀ (l : List Nat) (b : Int), b ≤ mxd d l b
  | [], b => Int.le_refl _
  | k :: l, b => Int.le_trans (by omega) (mxd_ge l (max b (d.getD k 0 + 1)))
theorem mxd_at {d : List Int} : ∀ (l : List Nat) (b : Int), mxd d l b = b ∨ ∃ k ∈ l, mxd d l b = d.getD k 0 + 1
  | [], b => .inl rfl
  | k :: l, b => by
    rcases mxd_at (d := d) l (max b (d.getD k 0 + 1)) with h | ⟨y, hy, h⟩
    · by_cases hb : b ≤ d.getD k 0 + 1
      · right; exact ⟨k, by simp, by show mxd d l (max b (d.getD k 0 + 1)) = _; rw [h]; omega⟩
      · left; show mxd d l (max b (d.getD k 0 + 1)) = _; rw [h]; omega
    · right; exact ⟨y, by simp [hy], h⟩
theorem mxd_take {d : List Int} {l : List Nat} {p : Nat} (hp : p < l.length) (b : Int) : mxd d (l.take (p + 1)) b = max (mxd d (l.take p) b) (d.getD (l.getD p 0) 0 + 1) := by
  unfold mxd
  rw [fold_take _ _ _ hp, getN_at hp]
theorem dep1_get {x k : Nat} {d : List Int} (hx : x < d.length) (j : Nat) : (dep1 x d k).getD j 0 = if j = x then max (d.getD x 0) (d.getD k 0 + 1) else d.getD j 0 := by
  unfold dep1
  rw [getD_set]
  by_cases e : j = x
  · subst e; rw [if_pos ⟨rfl, hx⟩, if_pos rfl]
  · rw [if_neg e, if_neg (fun h => e h.1.symm)]
theorem dep_fold {x : Nat} : ∀ (l : List Nat) (d : List Int), x < d.length → x ∉ l → (l.foldl (dep1 x) d).length = d.length ∧ ∀ j, (l.foldl (dep1 x) d).getD j 0 = if j = x then mxd d l (d.getD x 0) else d.getD j 0
  | [], d, _, _ => ⟨rfl, fun j => by
    by_cases e : j = x
    · subst e; rw [if_pos rfl]; rfl
    · rw [if_neg e]; rfl⟩
  | k :: l, d, hx, hn => by
    have e1 : (dep1 x d k).length = d.length := by simp [dep1]
    obtain ⟨h1, h2⟩ := dep_fold l (dep1 x d k) (by rw [e1]; exact hx) (fun h => hn (by simp [h]))
    refine ⟨h1.trans e1, fun j => ?_⟩
    rw [List.foldl_cons, h2 j]
    by_cases e : j = x
    · rw [if_pos e, if_pos e, dep1_get hx x, if_pos rfl]
      rw [mxd_congr (d' := d) l _ (fun y hy => by rw [dep1_get hx, if_neg (by rintro rfl; exact hn (by simp [hy]))])]
      rfl
    · rw [if_neg e, if_neg e, dep1_get hx, if_neg e]
theorem depth_inv {N : List (List Int)} (hm : mayN N = true) (hq : (told N).length = N.length) : ∀ q, q ≤ N.length → (depF N ((told N).take q)).length = N.length ∧ (∀ x, x ∉ (told N).take q → (depF N ((told N).take q)).getD x 0 = 0) ∧ ∀ x ∈ (told N).take q, (depF N ((told N).take q)).getD x 0 = mxd (depF N ((told N).take q)) (nd N x) 0
  | 0, _ => by
    refine ⟨by simp [depF], fun x _ => ?_, fun x h => by simp at h⟩
    show (List.replicate N.length (0 : Int)).getD x 0 = 0
    rw [List.getD_eq_getElem?_getD, List.getElem?_replicate]; split <;> rfl
  | q + 1, h => by
    obtain ⟨h1, h2, h3⟩ := depth_inv hm hq q (by omega)
    have hql : q < (told N).length := by omega
    have ht : (told N).take (q + 1) = (told N).take q ++ [(told N)[q]] := List.take_succ_eq_append_getElem hql
    have hx0 : (told N)[q] ∉ (told N).take q := fun hmem => by
      have := (free_iff.1 (nxt_some (told_at N hql)).2.1).1
      exact this hmem
    have hnx := (free_iff.1 (nxt_some (told_at N hql)).2.1).2
    have hxl := (told_tld N).lt _ (List.getElem_mem hql)
    have hd : depF N ((told N).take (q + 1)) = (nd N (told N)[q]).foldl (dep1 (told N)[q]) (depF N ((told N).take q)) := by
      rw [ht]; unfold depF; rw [List.foldl_append]; rfl
    generalize (told N)[q] = x0 at *
    generalize depF N ((told N).take q) = d at *
    obtain ⟨g1, g2⟩ := dep_fold (nd N x0) d (by omega) (fun hk => hx0 (hnx _ hk))
    have gk : ∀ k, k ∈ (told N).take q → d.getD k 0 = ((nd N x0).foldl (dep1 x0) d).getD k 0 := fun k hk => by
      rw [g2, if_neg (by rintro rfl; exact hx0 hk)]
    rw [hd]
    refine ⟨by rw [g1, h1], fun x hx => ?_, fun x hx => ?_⟩
    · rw [ht] at hx
      simp only [List.mem_append, List.mem_singleton, not_or] at hx
      rw [g2, if_neg hx.2]; exact h2 x hx.1
    · rw [ht] at hx
      rcases List.mem_append.1 hx with hx | hx
      · rw [← gk x hx, h3 x hx]
        refine mxd_congr _ _ (fun k hk => gk k ?_)
        have hxl2 := (told_tld N).lt x (List.mem_of_mem_take hx)
        have := need_before hq hxl2 hk hm
        have h4 := (mem_take hq hxl2 (by omega)).1 hx
        exact (mem_take hq (nd_lt hm hk) (by omega)).2 (by omega)
      · simp at hx; subst hx
        rw [g2, if_pos rfl, h2 x hx0]
        exact mxd_congr _ _ (fun k hk => gk k (hnx k hk))
theorem depth_is {N : List (List Int)} (hm : mayN N = true) (hq : (told N).length = N.length) : (depth N).length = N.length ∧ ∀ x, x < N.length → (depth N).getD x 0 = mxd (depth N) (nd N x) 0 := by
  have h := depth_inv hm hq N.length (Nat.le_refl _)
  have e : (told N).take N.length = told N := by rw [← hq, List.take_length]
  rw [e] at h
  exact ⟨h.1, fun x hx => h.2.2 x (nodup_full (told_tld N).nodup (told_tld N).lt hq hx)⟩
theorem depth_bound {N : List (List Int)} (hm : mayN N = true) (h : ∀ i, ∀ k ∈ nd N i, k < i) : ∀ x, 0 ≤ (depth N).getD x 0 ∧ (depth N).getD x 0 ≤ x := by
  obtain ⟨h1, h2⟩ := depth_is hm (told_full h)
  intro x
  induction x using Nat.strongRecOn with
  | ind x ih =>
    by_cases hx : x < N.length
    · rw [h2 x hx]
      exact ⟨mxd_ge _ _, mxd_le _ _ (by omega) (fun k hk => by have := h x k hk; have := ih k this; omega)⟩
    · rw [List.getD_eq_getElem?_getD, List.getElem?_eq_none (by omega)]; simp

theorem mem_lay {d : List Int} {j v i : Nat} : i ∈ lay d j v ↔ i < j ∧ d.getD i 0 = (v : Int) := by
  unfold lay; rw [List.mem_filter]; simp
theorem lay_lt {d : List Int} {j v p : Nat} (hp : p + 1 < (lay d j v).length) : (lay d j v).getD p 0 < (lay d j v).getD (p + 1) 0 := by
  have : (lay d j v).Pairwise (· < ·) := List.pairwise_lt_range.filter _
  rw [List.pairwise_iff_getElem] at this
  rw [getN_at hp, getN_at (by omega)]
  exact this p (p + 1) (by omega) hp (by omega)
def smL (d : List Int) (j : Nat) : Nat → Nat
  | 0 => 0
  | v + 1 => smL d j v + (lay d j v).length
theorem smL_succ (d : List Int) (j : Nat) : ∀ G, smL d (j + 1) G = smL d j G + if 0 ≤ d.getD j 0 ∧ d.getD j 0 < G then 1 else 0
  | 0 => by
    rw [if_neg (by omega)]; rfl
  | G + 1 => by
    show smL d (j + 1) G + (lay d (j + 1) G).length = smL d j G + (lay d j G).length + _
    rw [smL_succ d j G, lay_succ]
    generalize d.getD j 0 = x
    by_cases h1 : x = (G : Int)
    · rw [if_pos h1, if_neg (by omega), if_pos (by omega)]; simp; omega
    · rw [if_neg h1]
      by_cases h2 : 0 ≤ x ∧ x < (G : Int)
      · rw [if_pos h2, if_pos (by omega)]; omega
      · rw [if_neg h2, if_neg (by omega)]; omega
theorem smL_all {d : List Int} {G : Nat} : ∀ j, (∀ i, i < j → 0 ≤ d.getD i 0 ∧ d.getD i 0 < (G : Int)) → smL d j G = j
  | 0, _ => by
    have : ∀ G, smL d 0 G = 0 := by
      intro G
      induction G with
      | zero => rfl
      | succ G ih => show smL d 0 G + (lay d 0 G).length = 0; rw [ih]; simp [lay]
    exact this G
  | j + 1, h => by
    rw [smL_succ, smL_all j (fun i hi => h i (by omega)), if_pos (h j (by omega))]
theorem smL_le (d : List Int) (j : Nat) : ∀ G, smL d j G ≤ G * j
  | 0 => by simp [smL]
  | G + 1 => by
    have h1 := smL_le d j G
    have h2 := lay_len d j G
    show smL d j G + _ ≤ _
    rw [Nat.succ_mul]; omega
theorem layL_get {d : List Int} {v : Nat} (hv : v < (layL d).length) : (layL d).getD v [] = iz (lay d d.length v) := by
  unfold layL at *
  rw [List.length_map, List.length_range] at hv
  simp [List.getD, hv]
theorem layL_gt {d : List Int} {i : Nat} (hi : i < d.length) (h0 : 0 ≤ d.getD i 0) : d.getD i 0 < ((layL d).length : Int) := by
  have h := (grt_ge d (-1)).2 d[i] (List.getElem_mem hi)
  rw [getD_at hi] at h0 ⊢
  unfold layL
  rw [List.length_map, List.length_range]
  unfold grt
  omega

theorem RC.set {w0 w : World} {n g c : Nat} {V : Nat → Value} {U : Nat → List Int} (h : RC w0 w (.slice (some ⟨g, 0, none⟩) n c) n V U) {i : Nat} {v : Value} {l : List Int} (hv : w.ownsRow w0.heap.size 3 1 v l.length (ints l))
    (hva : ∀ k, k < n → ∀ b, v.ownBlock = some b → (V k).ownBlock ≠ some b) : RC w0 (w.setCell ⟨g, i, none⟩ v) (.slice (some ⟨g, 0, none⟩) n c) n (upd V i v) (upd U i l) := by
  have hg : w0.heap.size ≤ g := own_ge h.ub g rfl
  have row : ∀ {v2 : Value} {n2 : Nat} {xs : List Value}, w.ownsRow w0.heap.size 3 1 v2 n2 xs → (w.setCell ⟨g, i, none⟩ v).ownsRow w0.heap.size 3 1 v2 n2 xs := fun hr => ownsRow_setCell_other hr (fun e => by
    obtain ⟨cur, hc⟩ := own_type hr e
    obtain ⟨cur2, hc2⟩ := own_type h.ub (k := g) rfl
    exact absurd (kinds hc hc2) (by decide)) _
  refine ⟨h.low.trans ((Below.refl w0.heap.size w).setCell (p := ⟨g, i, none⟩) hg _), ?_, fun k hk => ?_, fun k j hk hj hkj b => ?_⟩
  · rw [map_upd]; exact (h.ub.stored i v).1
  · by_cases e : k = i
    · subst e; rw [upd_same, upd_same]; exact row hv
    · rw [upd_other _ _ e, upd_other _ _ e]; exact row (h.ur k hk)
  · by_cases ek : k = i
    · subst ek
      rw [upd_same, upd_other _ _ (fun e => hkj e.symm)]
      exact hva j hj b
    · by_cases ej : j = i
      · subst ej
        rw [upd_same, upd_other _ _ ek]
        intro e1 e2
        exact hva k hk b e2 e1
      · rw [upd_other _ _ ek, upd_other _ _ ej]
        exact h.auu k j hk hj hkj b
/-- A thing behind the first layer needs one of the layer ahead. -/
theorem need_ahead {N : List (List Int)} {d : List Int} {y v : Nat} (hd : d.getD y 0 = mxd d (nd N y) 0) (hv : d.getD y 0 = (v : Int)) (h0 : 0 < v) :
    ∃ p, p < (N.getD y []).length ∧ d.getD ((N.getD y []).getD p 0).toNat 0 = (v : Int) - 1 := by
  rcases mxd_at (d := d) (nd N y) 0 with h | ⟨k, hk, h⟩
  · have := h0; omega
  · obtain ⟨p, hp, e⟩ := List.getElem_of_mem hk
    have hp2 : p < (N.getD y []).length := by rw [← nd_len]; exact hp
    refine ⟨p, hp2, ?_⟩
    have e2 : ((N.getD y []).getD p 0).toNat = k := by rw [← getD_toNat hp2, ← e]; exact getN_at hp
    rw [e2]; omega
/-- What is put together, as the calls name it, each need a lesser thing. -/
theorem RC.less {w0 w : World} {ov : Value} {m : Nat} {V : Nat → Value} {U : Nat → List Int} (h : RC w0 w ov m V U) (hm : m ≤ 40) (hU : ∀ k, k < m → (U k).length ≤ 10 ∧ ∀ z ∈ U k, 0 ≤ z ∧ z < (k : Int)) :
    ∃ a c N, ov = .slice a m c ∧ m ≤ c ∧ c ≤ 9223372036854775807 ∧ RR w a m N ∧ N.length = m ∧ mayN N = true ∧ (∀ i, (N.getD i []).length ≤ 10) ∧ ∀ i, ∀ k ∈ nd N i, k < i := by
  obtain ⟨a, c, e, h1, h2⟩ := h.len
  have hg : ∀ i, i < m → ((List.range m).map U).getD i [] = U i := fun i hi => by simp [List.getD, hi]
  have hn : ∀ i, ¬ i < m → ((List.range m).map U).getD i [] = [] := fun i hi => by rw [List.getD_eq_getElem?_getD, List.getElem?_eq_none (by simp; omega)]; rfl
  refine ⟨a, c, (List.range m).map U, e, h1, h2, h.rr (by omega) (fun k hk => by have := (hU k hk).1; omega) e, by simp, mayN_of (fun k hk z hz => by have := (hU k hk).2 z hz; omega), fun i => ?_, fun i k hk => ?_⟩
  · by_cases hi : i < m
    · rw [hg i hi]; exact (hU i hi).1
    · rw [hn i hi]; simp
  · unfold nd at hk
    by_cases hi : i < m
    · rw [hg i hi] at hk
      obtain ⟨z, hz, rfl⟩ := List.mem_map.1 hk
      have := (hU i hi).2 z hz
      omega
    · rw [hn i hi] at hk; simp at hk

set_option maxHeartbeats 2000000 in
/-- Is a thing of the layer ahead? -/
theorem ahead_any {w : World} {va : Option Addr} {m c bx bd : Nat} {d : List Int} {v : Int} (hb : w.cell? ⟨bx, 0, none⟩ = some (.slice va m c)) (hv : w.cell? ⟨bd, 0, none⟩ = some (.int .i64 v)) (hr : Row .i64 w va m d) (hv0 : 0 < v) (hvm : v ≤ 1000) {y : Nat} (hy : y < m) :
    Calls Try.prog 30 #[.int .i64 (y : Int), .pointer (some ⟨bx, 0, none⟩), .pointer (some ⟨bd, 0, none⟩)] w fun e w' => e = .returned (.bool (d.getD y 0 == v - 1)) ∧ Below w.heap.size w w' := by
  obtain ⟨b, off, rfl, hb2, hcell⟩ := hr.at (by omega)
  have c1 := hcell y hy
  have hyi : (y : Int) < m := by omega
  have hl := hr.le
  have hbn := Lib.hid (below_draws w)
  have hw1 : IntKind.i64.wrap (v - 1) = v - 1 := by simp [IntKind.wrap, IntKind.bits, IntKind.signed]; omega
  generalize d.getD y 0 = z at *
  obtain ⟨r, hrz⟩ : ∃ r, (z == v - 1) = r := ⟨_, rfl⟩
  rw [hrz]
  clear hcell hr
  go_enter Try.func30, Try.ntmps30
  go_wp2
  go_quiet (fail)
  go_wp2
  go_ret
  exact ⟨rfl, hbn.out _⟩

set_option maxHeartbeats 2000000 in
theorem indexAhead_any {w : World} {va a : Option Addr} {m c n bx bd : Nat} {d l : List Int} {v : Int} (hbl : bx < w.heap.size) (hb : w.cell? ⟨bx, 0, none⟩ = some (.slice va m c)) (hdl : bd < w.heap.size) (hv : w.cell? ⟨bd, 0, none⟩ = some (.int .i64 v)) (hr : Row .i64 w va m d) (hv0 : 0 < v) (hvm : v ≤ 1000) (h : Row .i64 w a n l)
    (hl : ∀ p, p < n → ∃ y : Nat, l.getD p 0 = (y : Int) ∧ y < m) (hex : ∃ p, p < n ∧ d.getD (l.getD p 0).toNat 0 = v - 1) (cl : Nat) :
    Calls Try.prog 40 #[.slice a n cl, .func (.func 30) #[] #[.pointer (some ⟨bx, 0, none⟩), .pointer (some ⟨bd, 0, none⟩)]] w fun e w' => ∃ r : Nat, e = .returned (.int .i64 (r : Int)) ∧ Below w.heap.size w w' := by
  have hle := h.le
  have H := Lib.hid h
  have HL := Lib.hid hl
  have HE := Lib.hid hex
  have HB := Lib.hid hb
  have HV := Lib.hid hv
  have HR := Lib.hid hr
  clear h hl hex hb hv hr
  go_enter Try.func40, Try.ntmps40
  go_wp2
  go_loopw [8] (fun s wr => ∃ j : Nat, s = .int .i64 j ∧ j ≤ n ∧ Hid (Below w.heap.size w wr) ∧ Hid (∀ p, p < j → d.getD (l.getD p 0).toNat 0 ≠ v - 1)) (fun s _ => n - (RowKit.intOf s).toNat)
  case atStart => exact ⟨0, rfl, by omega, Lib.hid (Below.refl _ _), Lib.hid (fun p hp => by omega)⟩
  case round =>
    obtain ⟨j, rfl, hj, hB, hK⟩ := hrel
    by_cases hlt : j < n
    · obtain ⟨b, off, rfl, hb, hcell⟩ := H.out.at (by omega)
      have c1 := stepc hB.out hb (hcell j hlt)
      obtain ⟨y, ey, hy⟩ := HL.out j hlt
      have hjn : (j : Int) < n := by omega
      have hah := Lib.hid (ahead_any (stepc hB.out hbl HB.out) (stepc hB.out hdl HV.out) (HR.out.step hB.out) hv0 hvm hy)
      have hnx := Lib.hid (fun (h : d.getD y 0 ≠ v - 1) => (show ∀ p, p < j + 1 → d.getD (l.getD p 0).toNat 0 ≠ v - 1 from fun p hp => by
        by_cases e : p = j
        · subst e; rw [ey]; exact h
        · exact hK.out p (by omega)))
      rw [ey] at c1
      clear hcell hK ey
      by_cases hs : d.getD y 0 = v - 1
      · have e1 : (d.getD y 0 == v - 1) = true := by rw [hs]; simp
        rw [e1] at hah
        clear hs e1 hnx
        go_wp2_with (go_at_call 30; (with_reducible refine hah.out.mono ?_); rintro e w2 ⟨rfl, hb2⟩)
        go_ret
        exact ⟨j, rfl, nextw hB.out hb2⟩
      · have e1 : (d.getD y 0 == v - 1) = false := by simpa using hs
        have r := Lib.hid (hnx.out hs)
        rw [e1] at hah
        clear hs e1 hnx
        go_wp2_with (go_at_call 30; (with_reducible refine hah.out.mono ?_); rintro e w2 ⟨rfl, hb2⟩)
        exact ⟨⟨j + 1, by go_num, by omega, Lib.hid (nextw hB.out hb2), r⟩, by simp [RowKit.intOf]; omega⟩
    · obtain rfl : j = n := by omega
      obtain ⟨p, hp, e⟩ := HE.out
      exact absurd e (hK.out p hp)
theorem containsAhead_any {w : World} {va a : Option Addr} {m c n bx bd : Nat} {d l : List Int} {v : Int} (hbl : bx < w.heap.size) (hb : w.cell? ⟨bx, 0, none⟩ = some (.slice va m c)) (hdl : bd < w.heap.size) (hv : w.cell? ⟨bd, 0, none⟩ = some (.int .i64 v)) (hr : Row .i64 w va m d) (hv0 : 0 < v) (hvm : v ≤ 1000) (h : Row .i64 w a n l)
    (hl : ∀ p, p < n → ∃ y : Nat, l.getD p 0 = (y : Int) ∧ y < m) (hex : ∃ p, p < n ∧ d.getD (l.getD p 0).toNat 0 = v - 1) (cl : Nat) :
    Calls Try.prog 29 #[.slice a n cl, .func (.func 30) #[] #[.pointer (some ⟨bx, 0, none⟩), .pointer (some ⟨bd, 0, none⟩)]] w fun e w' => e = .returned (.bool true) ∧ Below w.heap.size w w' := by
  have hi := Lib.hid (indexAhead_any hbl hb hdl hv hr hv0 hvm h hl hex cl)
  clear h hl hex hb hv hr
  go_enter Try.func29, Try.ntmps29
  go_wp2_with (go_at_call 40; (with_reducible refine hi.out.mono ?_); rintro e w2 ⟨r, rfl, hb2⟩)
  go_ret
  exact ⟨ret_bool (by simp), hb2⟩
end Go.Proofs.Ytocfchgkfaogdaa
