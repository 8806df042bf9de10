/-
  What 'tell' keeps: a map, a queue, a row of rows (who needs what), the row told; one step of each.
-/
import Derived.Test.YtocfchgkfaogdaaLvN
namespace Go.Proofs.Ytocfchgkfaogdaa
open Go.RowKit
set_option maxRecDepth 100000

def iz (T : List Nat) : List Int := T.map (fun (k : Nat) => (k : Int))
theorem iz_len (T : List Nat) : (iz T).length = T.length := by simp [iz]
theorem iz_snoc (T : List Nat) (x : Nat) : ints (iz (T ++ [x])) = ints (iz T) ++ [.int .i64 (x : Int)] := by simp [iz, ints]

structure TM (w0 w : World) (bm : Nat) (ks : List Nat) (f : Nat → Int) (q : Nat) (vq : Value) (l : List Int) (bu n : Nat) (V : Nat → Value) (U : Nat → List Nat) (vt : Value) (tl : List Nat) : Prop where
  low : Below w0.heap.size w0 w
  map : LMap w bm ks f
  bmg : w0.heap.size ≤ bm
  que : QIs w q vq l
  qg : ∀ k, qhas q vq k → w0.heap.size ≤ k
  ub : w.ownsRow w0.heap.size 23 1 (.slice (some ⟨bu, 0, none⟩) n n) n ((List.range n).map V)
  ur : ∀ k, k < n → w.ownsRow w0.heap.size 3 1 (V k) (U k).length (ints (iz (U k)))
  tr : w.ownsRow w0.heap.size 3 1 vt tl.length (ints (iz tl))
  auu : ∀ k j, k < n → j < n → k ≠ j → ∀ b, (V k).ownBlock = some b → (V j).ownBlock ≠ some b
  auq : ∀ k, k < n → ∀ b, (V k).ownBlock = some b → vq.ownBlock ≠ some b
  aut : ∀ k, k < n → ∀ b, (V k).ownBlock = some b → vt.ownBlock ≠ some b
  aqt : ∀ b, vq.ownBlock = some b → vt.ownBlock ≠ some b

section
variable {w0 w w' : World} {bm q bu n : Nat} {ks : List Nat} {f : Nat → Int} {vq vt : Value} {l : List Int} {V : Nat → Value} {U : Nat → List Nat} {tl : List Nat}
theorem TM.ubl (h : TM w0 w bm ks f q vq l bu n V U vt tl) : ∃ cur, w.heap[bu]? = some (.cells cur 23 (0, 0)) := own_type h.ub (k := bu) rfl
theorem TM.lt (h : TM w0 w bm ks f q vq l bu n V U vt tl) : bu < w.heap.size ∧ bm < w.heap.size ∧ q < w.heap.size := ⟨own_lt h.ub, h.map.lt, h.que.lt⟩
theorem TM.ubg (h : TM w0 w bm ks f q vq l bu n V U vt tl) : w0.heap.size ≤ bu := own_ge h.ub bu rfl
theorem own_blt {w : World} {base e size n k : Nat} {v : Value} {xs : List Value} (h : w.ownsRow base e size v n xs) (hk : v.ownBlock = some k) : k < w.heap.size := by
  obtain ⟨cur, hc⟩ := own_type h hk
  exact (Array.getElem?_eq_some_iff.1 hc).1
theorem TM.below (h : TM w0 w bm ks f q vq l bu n V U vt tl) (hb : Below w.heap.size w w') : TM w0 w' bm ks f q vq l bu n V U vt tl :=
  ⟨nextw h.low hb, h.map.step hb, h.bmg, h.que.below hb, h.qg, own_below h.ub hb, fun k hk => own_below (h.ur k hk) hb, own_below h.tr hb, h.auu, h.auq, h.aut, h.aqt⟩
/-- Rows, boxes and maps lie apart by their kinds. -/
theorem kinds {w : World} {k e e2 : Nat} {c c2 : Array Value} {z z2 : Nat × Nat} (h1 : w.heap[k]? = some (.cells c e z)) (h2 : w.heap[k]? = some (.cells c2 e2 z2)) : e = e2 := by
  rw [h1] at h2; simp at h2; exact h2.2.1
theorem kinds_map {w : World} {k e cl : Nat} {c : Array Value} {z : Nat × Nat} {es : Array MapEntry} (h1 : w.heap[k]? = some (.cells c e z)) (h2 : w.heap[k]? = some (.map es cl)) : False := by
  rw [h1] at h2; simp at h2
theorem TM.mapd (h : TM w0 w bm ks f q vq l bu n V U vt tl) {ks' : List Nat} {f' : Nat → Int} (hg : w.grownBy w' (some bm)) (hm : LMap w' bm ks' f') : TM w0 w' bm ks' f' q vq l bu n V U vt tl := by
  obtain ⟨es, cl, ho⟩ := h.map.obj
  have hk : Kept (fun k => k = bm) w w' := (Kept.of_grown hg).wide (fun k e => by cases e; rfl)
  have row : ∀ {base e size n : Nat} {v : Value} {xs : List Value}, w.ownsRow base e size v n xs → w'.ownsRow base e size v n xs := fun hr => own_keptF hr hk (fun k e hf => by
    obtain ⟨cur, hc⟩ := own_type hr e
    exact kinds_map hc (hf ▸ ho))
  have hq : q ≠ bm := fun e => kinds_map h.que.box (e ▸ ho)
  exact ⟨h.low.trans (hk.below (fun k e => by rw [e]; exact h.bmg) h.low.size), hm, h.bmg, ⟨(hk.block _ h.que.lt hq).trans h.que.box, row h.que.row⟩, h.qg, row h.ub, fun k hk => row (h.ur k hk), row h.tr, h.auu, h.auq, h.aut, h.aqt⟩
theorem TM.qstep (h : TM w0 w bm ks f q vq l bu n V U vt tl) {vq' : Value} {l' : List Int} (hs : QStep q vq w vq' w' l') : TM w0 w' bm ks f q vq' l' bu n V U vt tl := by
  obtain ⟨es, cl, ho⟩ := h.map.obj
  have hk := hs.kept
  have row : ∀ {base e size n : Nat} {v : Value} {xs : List Value}, w.ownsRow base e size v n xs → e ≠ 71 → (∀ b, v.ownBlock = some b → vq.ownBlock ≠ some b) → w'.ownsRow base e size v n xs := fun hr he hne => own_keptF hr hk (fun k e hf => by
    obtain ⟨cur, hc⟩ := own_type hr e
    rcases hf with rfl | hf
    · exact he (kinds hc h.que.box)
    · exact hne k e hf)
  have hbm : ¬ qhas q vq bm := by
    rintro (e | e)
    · exact kinds_map h.que.box (e ▸ ho)
    · obtain ⟨cur, hc⟩ := own_type h.que.row e
      exact kinds_map hc ho
  have new : ∀ k, vq'.ownBlock = some k → vq.ownBlock = some k ∨ k = q ∨ w.heap.size ≤ k := fun k e => by
    rcases hs.new k (.inr e) with (h1 | h1) | h1
    · exact .inr (.inl h1)
    · exact .inl h1
    · exact .inr (.inr h1)
  have apart : ∀ {base e size n : Nat} {v : Value} {xs : List Value}, w.ownsRow base e size v n xs → e ≠ 71 → (∀ b, v.ownBlock = some b → vq.ownBlock ≠ some b) → ∀ b, v.ownBlock = some b → vq'.ownBlock ≠ some b := fun hr he hne b hb e => by
    rcases new b e with h1 | h1 | h1
    · exact hne b hb h1
    · obtain ⟨cur, hc⟩ := own_type hr hb
      subst h1
      exact he (kinds hc h.que.box)
    · have := own_blt hr hb; omega
  have hub : ∀ b, (Value.slice (some ⟨bu, 0, none⟩) n n).ownBlock = some b → vq.ownBlock ≠ some b := fun b hb e => by
    obtain ⟨cur, hc⟩ := own_type h.ub hb
    obtain ⟨cur2, hc2⟩ := own_type h.que.row e
    exact absurd (kinds hc hc2) (by decide)
  have hvt : ∀ b, vt.ownBlock = some b → vq.ownBlock ≠ some b := fun b hb e => h.aqt b e hb
  exact ⟨h.low.trans (hk.below h.qg h.low.size), h.map.block (hk.block _ h.map.lt hbm), h.bmg, hs.is, fun k hk => by
      rcases hs.new k hk with h1 | h1
      · exact h.qg k h1
      · have := h.low.size; omega, row h.ub (by decide) hub, fun k hk => row (h.ur k hk) (by decide) (h.auq k hk), row h.tr (by decide) hvt, h.auu, fun k hk => apart (h.ur k hk) (by decide) (h.auq k hk), h.aut, fun b e e2 => apart h.tr (by decide) hvt b e2 e⟩
/-- A row that has grown by one. -/
theorem grown_kept {w w2 w1 : World} {r : Option Nat} (hb : Below w.heap.size w w2) (hg : w2.grownBy w1 r) : Kept (fun k => r = some k) w w1 :=
  ⟨hg.os.trans hb.os, hg.tape.trans hb.tape, hg.output.trans hb.output, Nat.le_trans hb.size hg.size, fun k hk hn => (hg.block k (Nat.lt_of_lt_of_le hk hb.size) (fun e => hn e.symm)).trans (hb.block k hk)⟩
theorem TM.told1 (h : TM w0 w bm ks f q vq l bu n V U vt tl) {w2 w1 : World} {g1 cap1 : Nat} {x : Nat} (hb : Below w.heap.size w w2) (hown : w1.ownsRow w0.heap.size 3 1 (.slice (some ⟨g1, 0, none⟩) (tl.length + 1) cap1) (tl.length + 1) (ints (iz tl) ++ [.int .i64 (x : Int)]))
    (hg : w2.grownBy w1 vt.ownBlock) (hat : vt.ownBlock = some g1 ∨ g1 = w2.heap.size) : TM w0 w1 bm ks f q vq l bu n V U (.slice (some ⟨g1, 0, none⟩) (tl.length + 1) cap1) (tl ++ [x]) := by
  obtain ⟨es, cl, ho⟩ := h.map.obj
  have hk := grown_kept hb hg
  have hs := hb.size
  have row : ∀ {base e size n : Nat} {v : Value} {xs : List Value}, w.ownsRow base e size v n xs → (∀ b, v.ownBlock = some b → vt.ownBlock ≠ some b) → w1.ownsRow base e size v n xs := fun hr hne => own_keptF hr hk (fun k e hf => hne k e hf)
  have apart : ∀ {base e size n : Nat} {v : Value} {xs : List Value}, w.ownsRow base e size v n xs → (∀ b, v.ownBlock = some b → vt.ownBlock ≠ some b) → ∀ b, v.ownBlock = some b → (Value.slice (some ⟨g1, 0, none⟩) (tl.length + 1) cap1).ownBlock ≠ some b := fun hr hne b hb2 e => by
    obtain rfl : g1 = b := by simpa [Value.ownBlock] using e
    rcases hat with h1 | h1
    · exact hne _ hb2 h1
    · have := own_blt hr hb2; omega
  have hbm : ¬ vt.ownBlock = some bm := fun e => by
    obtain ⟨cur, hc⟩ := own_type h.tr e
    exact kinds_map hc ho
  have hq : ¬ vt.ownBlock = some q := fun e => by
    obtain ⟨cur, hc⟩ := own_type h.tr e
    exact absurd (kinds hc h.que.box) (by decide)
  have hub : ∀ b, (Value.slice (some ⟨bu, 0, none⟩) n n).ownBlock = some b → vt.ownBlock ≠ some b := fun b hb e => by
    obtain ⟨cur, hc⟩ := own_type h.ub hb
    obtain ⟨cur2, hc2⟩ := own_type h.tr e
    exact absurd (kinds hc hc2) (by decide)
  exact ⟨h.low.trans (hk.below (fun k e => own_ge h.tr k e) h.low.size), h.map.block (hk.block _ h.map.lt hbm), h.bmg, ⟨(hk.block _ h.que.lt hq).trans h.que.box, row h.que.row h.aqt⟩, h.qg, row h.ub hub, fun k hk => row (h.ur k hk) (h.aut k hk),
    by rw [iz_snoc, List.length_append]; exact hown, h.auu, h.auq, fun k hk => apart (h.ur k hk) (h.aut k hk), apart h.que.row h.aqt⟩
theorem map_upd (n : Nat) (V : Nat → Value) {k : Nat} (v : Value) : (List.range n).map (upd V k v) = ((List.range n).map V).set k v := by
  apply List.ext_getElem
  · simp
  · intro i h1 h2
    simp [List.getElem_set, upd]
    by_cases e : i = k
    · subst e; simp
    · rw [if_neg e, if_neg (by omega)]
theorem TM.user1 (h : TM w0 w bm ks f q vq l bu n V U vt tl) {w2 w1 : World} {g1 cap1 k : Nat} {x : Nat} (hkn : k < n) (hb : Below w.heap.size w w2) (hown : w1.ownsRow w0.heap.size 3 1 (.slice (some ⟨g1, 0, none⟩) ((U k).length + 1) cap1) ((U k).length + 1) (ints (iz (U k)) ++ [.int .i64 (x : Int)]))
    (hg : w2.grownBy w1 (V k).ownBlock) (hat : (V k).ownBlock = some g1 ∨ g1 = w2.heap.size) :
    TM w0 (w1.setCell ⟨bu, k, none⟩ (.slice (some ⟨g1, 0, none⟩) ((U k).length + 1) cap1)) bm ks f q vq l bu n (upd V k (.slice (some ⟨g1, 0, none⟩) ((U k).length + 1) cap1)) (upd U k (U k ++ [x])) vt tl := by
  obtain ⟨es, cl, ho⟩ := h.map.obj
  have hrk := h.ur k hkn
  have hk1 := grown_kept hb hg
  have hs := hb.size
  have hbu := own_lt h.ub
  generalize hv' : (Value.slice (some ⟨g1, 0, none⟩) ((U k).length + 1) cap1) = v' at *
  have hv'b : v'.ownBlock = some g1 := by rw [← hv']; rfl
  have hbk : ∀ b, (Value.slice (some ⟨bu, 0, none⟩) n n).ownBlock = some b → (V k).ownBlock ≠ some b := fun b hb e => by
    obtain ⟨cur, hc⟩ := own_type h.ub hb
    obtain ⟨cur2, hc2⟩ := own_type hrk e
    exact absurd (kinds hc hc2) (by decide)
  have hgb : g1 ≠ bu := by
    rcases hat with e | e
    · rintro rfl; exact hbk _ rfl e
    · omega
  have hk2 : Kept (fun b => b = bu) w1 (w1.setCell ⟨bu, k, none⟩ v') := ⟨rfl, rfl, rfl, by simp [World.setCell], fun b _ hn => Below.heap_setCell _ _ _ _ hn⟩
  have hk : Kept (fun b => b = bu ∨ (V k).ownBlock = some b) w (w1.setCell ⟨bu, k, none⟩ v') := (hk1.wide (fun b e => .inr e)).trans hk2 (fun b e => .inl (.inl e))
  have notbu : ∀ {base size n2 : Nat} {v : Value} {xs : List Value}, w.ownsRow base 3 size v n2 xs → ∀ b, v.ownBlock = some b → b ≠ bu := fun hr b hb e => by
    obtain ⟨cur, hc⟩ := own_type hr hb
    obtain ⟨cur2, hc2⟩ := h.ubl
    subst e
    exact absurd (kinds hc hc2) (by decide)
  have row : ∀ {base size n2 : Nat} {v : Value} {xs : List Value}, w.ownsRow base 3 size v n2 xs → (∀ b, v.ownBlock = some b → (V k).ownBlock ≠ some b) → (w1.setCell ⟨bu, k, none⟩ v').ownsRow base 3 size v n2 xs := fun hr hne => own_keptF hr hk (fun b e hf => by
    rcases hf with hf | hf
    · exact notbu hr b e hf
    · exact hne b e hf)
  have apart : ∀ {base size n2 : Nat} {v : Value} {xs : List Value}, w.ownsRow base 3 size v n2 xs → (∀ b, v.ownBlock = some b → (V k).ownBlock ≠ some b) → ∀ b, v.ownBlock = some b → v'.ownBlock ≠ some b := fun hr hne b hb2 e => by
    obtain rfl : g1 = b := by rw [hv'b] at e; simpa using e
    rcases hat with h1 | h1
    · exact hne _ hb2 h1
    · have := own_blt hr hb2; omega
  have hbm : ¬ (bm = bu ∨ (V k).ownBlock = some bm) := by
    rintro (e | e)
    · obtain ⟨cur, hc⟩ := h.ubl
      exact kinds_map hc (e ▸ ho)
    · obtain ⟨cur, hc⟩ := own_type hrk e
      exact kinds_map hc ho
  have hq : ¬ (q = bu ∨ (V k).ownBlock = some q) := by
    rintro (e | e)
    · obtain ⟨cur, hc⟩ := h.ubl
      exact absurd (kinds hc (e ▸ h.que.box)) (by decide)
    · obtain ⟨cur, hc⟩ := own_type hrk e
      exact absurd (kinds hc h.que.box) (by decide)
  have hqk : ∀ b, vq.ownBlock = some b → (V k).ownBlock ≠ some b := fun b e e2 => h.auq k hkn b e2 e
  have htk : ∀ b, vt.ownBlock = some b → (V k).ownBlock ≠ some b := fun b e e2 => h.aut k hkn b e2 e
  have hub1 : w1.ownsRow w0.heap.size 23 1 (.slice (some ⟨bu, 0, none⟩) n n) n ((List.range n).map V) := own_keptF h.ub hk1 (fun b e hf => hbk b e hf)
  have hvk : ∀ j, j ≠ k → upd V k v' j = V j := fun j hj => upd_other _ _ hj
  refine ⟨h.low.trans (hk.below (fun b e => by rcases e with rfl | e; exact h.ubg; exact own_ge hrk b e) h.low.size), h.map.block (hk.block _ h.map.lt hbm), h.bmg, ⟨(hk.block _ h.que.lt hq).trans h.que.box, row h.que.row hqk⟩, h.qg, ?_, fun j hj => ?_, row h.tr htk, fun i j hi hj hij b => ?_, fun j hj b => ?_, fun j hj b => ?_, h.aqt⟩
  · rw [map_upd]; exact (hub1.stored k v').1
  · by_cases e : j = k
    · subst e
      rw [upd_same, upd_same, iz_snoc, List.length_append]
      exact ownsRow_setCell_other hown (by rw [hv'b]; simpa using hgb) _
    · rw [upd_other _ _ e, upd_other _ _ e]
      exact row (h.ur j hj) (h.auu j k hj hkn e)
  · by_cases ei : i = k
    · subst ei
      have ej : j ≠ i := fun e => hij e.symm
      rw [upd_same, hvk j ej]
      intro e1 e2
      exact apart (h.ur j hj) (h.auu j i hj hkn ej) b e2 e1
    · rw [hvk i ei]
      by_cases ej : j = k
      · subst ej
        rw [upd_same]
        exact apart (h.ur i hi) (h.auu i j hi hkn ei) b
      · rw [hvk j ej]; exact h.auu i j hi hj hij b
  · by_cases e : j = k
    · subst e; rw [upd_same]; intro e1 e2; exact apart h.que.row hqk b e2 e1
    · rw [hvk j e]; exact h.auq j hj b
  · by_cases e : j = k
    · subst e; rw [upd_same]; intro e1 e2; exact apart h.tr htk b e2 e1
    · rw [hvk j e]; exact h.aut j hj b
/-- What a user's row is read as. -/
theorem TM.ucell (h : TM w0 w bm ks f q vq l bu n V U vt tl) {k : Nat} (hk : k < n) : w.cell? ⟨bu, k, none⟩ = some (V k) ∧ w.frozen? ⟨bu, k, none⟩ = false := by
  refine ⟨?_, h.ub.frozenAt k⟩
  rw [h.ub.cellAt k (by omega)]
  simp [hk]
theorem TM.uform (h : TM w0 w bm ks f q vq l bu n V U vt tl) {k : Nat} (hk : k < n) : ∃ a c, V k = .slice a (U k).length c := own_slice (h.ur k hk)
theorem TM.urow (h : TM w0 w bm ks f q vq l bu n V U vt tl) {k : Nat} (hk : k < n) (hle : (U k).length ≤ 9223372036854775807) {a : Option Addr} {c : Nat} (e : V k = .slice a (U k).length c) : Row .i64 w a (U k).length (iz (U k)) := by
  have hr := h.ur k hk
  rw [e] at hr
  exact Row.of_own hr (iz_len _) (by omega)
theorem TM.user2 (h : TM w0 w bm ks f q vq l bu n V U vt tl) {k : Nat} (hkn : k < n) {v : Value} {z : Nat} (ev : V k = v) (ez : (U k).length = z) (w2 w1 : World) (g1 cap1 : Nat) (x : Nat) (hb : Below w.heap.size w w2) (hown : w1.ownsRow w0.heap.size 3 1 (.slice (some ⟨g1, 0, none⟩) (z + 1) cap1) (z + 1) (ints (iz (U k)) ++ [.int .i64 (x : Int)]))
    (hg : w2.grownBy w1 v.ownBlock) (hat : v.ownBlock = some g1 ∨ g1 = w2.heap.size) :
    TM w0 (w1.setCell ⟨bu, k, none⟩ (.slice (some ⟨g1, 0, none⟩) (z + 1) cap1)) bm ks f q vq l bu n (upd V k (.slice (some ⟨g1, 0, none⟩) (z + 1) cap1)) (upd U k (U k ++ [x])) vt tl := by
  subst ev ez
  exact h.user1 hkn hb hown hg hat
theorem TM.told2 (h : TM w0 w bm ks f q vq l bu n V U vt tl) {z : Nat} (ez : tl.length = z) (w2 w1 : World) (g1 cap1 : Nat) (x : Nat) (hb : Below w.heap.size w w2) (hown : w1.ownsRow w0.heap.size 3 1 (.slice (some ⟨g1, 0, none⟩) (z + 1) cap1) (z + 1) (ints (iz tl) ++ [.int .i64 (x : Int)]))
    (hg : w2.grownBy w1 vt.ownBlock) (hat : vt.ownBlock = some g1 ∨ g1 = w2.heap.size) : TM w0 w1 bm ks f q vq l bu n V U (.slice (some ⟨g1, 0, none⟩) (z + 1) cap1) (tl ++ [x]) := by
  subst ez
  exact h.told1 hb hown hg hat
theorem us_len {N : List (List Int)} (hr : ∀ i, (N.getD i []).length ≤ 1000) (J k : Nat) : (us N J k).length ≤ J * 1000 := by
  induction J with
  | zero => simp [us]
  | succ J ih =>
    rw [us_succ, List.length_append, List.length_replicate]
    have := List.count_le_length (a := k) (l := nd N J)
    rw [nd_len] at this
    have := hr J
    omega
theorem us_next {N : List (List Int)} {U : Nat → List Nat} {j p y : Nat} (hp : p < (nd N j).length) (hy : (nd N j).getD p 0 = y) (h : ∀ k, U k = us N j k ++ List.replicate (((nd N j).take p).count k) j) : ∀ k, upd U y (U y ++ [j]) k = us N j k ++ List.replicate (((nd N j).take (p + 1)).count k) j := by
  intro k
  have e : (nd N j).take (p + 1) = (nd N j).take p ++ [y] := by
    rw [List.take_succ_eq_append_getElem hp]
    congr 2
    rw [← hy]; simp [List.getD, hp]
  rw [e, List.count_append]
  by_cases hk : k = y
  · subst hk
    rw [upd_same, h k]
    simp [List.replicate_succ']
  · rw [upd_other _ _ hk, h k]
    have : List.count k [y] = 0 := by rw [List.count_eq_zero]; simpa using hk
    rw [this, Nat.add_zero]
theorem us_full {N : List (List Int)} {U : Nat → List Nat} {j m : Nat} (hm : (nd N j).length = m) (h : ∀ k, U k = us N j k ++ List.replicate (((nd N j).take m).count k) j) : ∀ k, U k = us N (j + 1) k := by
  intro k
  rw [h k, us_succ, ← hm, List.take_length]
end
end Go.Proofs.Ytocfchgkfaogdaa
