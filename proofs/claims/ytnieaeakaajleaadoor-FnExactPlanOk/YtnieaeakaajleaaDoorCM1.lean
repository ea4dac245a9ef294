/- Rules that were gathered: a row of their own, and of each one's left-out ticks a row of its own. -/
import Derived.Test.YtnieaeakaajleaaDoorCW8
namespace Go.Proofs.YtnieaeakaajleaaDoor
set_option linter.unusedVariables false
set_option linter.unusedSimpArgs false
open Go.RowKit Go
namespace Cal
/-- What is good in an entry. -/
def GoodR (e : Rul) : Prop := (Lit.int .i64 e.ev).wf = true ∧ (Lit.int .i64 e.at_).wf = true ∧ (Lit.int .i64 e.fr).wf = true ∧ (Lit.int .i64 e.to_).wf = true ∧ ∀ z ∈ e.but, (Lit.int .i64 z).wf = true
/-- The slice v gathers the entries es, in blocks from base on, no two rows in one. -/
def Gath (w : World) (base : Nat) (v : Value) (es : List Rul) : Prop :=
  ∃ vs : List Value, ∃ hv : vs.length = es.length, w.ownsRow base 47 5 v es.length (flatR es vs) ∧
    (∀ i (h : i < es.length), w.ownsRow base 3 1 (vs[i]'(by omega)) es[i].but.length (es[i].but.map (Value.int .i64)) ∧ GoodR es[i]) ∧
    ∀ i j (hi : i < vs.length) (hj : j < vs.length), i < j → ∀ b c, vs[i].ownBlock = some b → vs[j].ownBlock = some c → b < c
theorem Gath.nil (w : World) (base : Nat) : Gath w base (.slice none 0 0) [] := ⟨[], rfl, World.ownsRow_nil _ _ _ _, fun i h => by simp at h, fun i j hi => by simp at hi⟩

/-- What was laid as rows of entries or of numbers stands. -/
structure SameT (W W' : World) : Prop where
  size : W.heap.size ≤ W'.heap.size
  rows : ∀ (k : Nat) (c : Array Value) (fz : Nat × Nat), W.heap[k]? = some (.cells c 47 fz) → W'.heap[k]? = some (.cells c 47 fz)
  nums : ∀ (k : Nat) (c : Array Value) (fz : Nat × Nat), W.heap[k]? = some (.cells c 3 fz) → W'.heap[k]? = some (.cells c 3 fz)
theorem own_rows {w w' : World} {base : Nat} {e : TypeId} {size : Nat} {v : Value} {n : Nat} {xs : List Value} (h : w.ownsRow base e size v n xs) (hk : ∀ (k : Nat) (c : Array Value) (fz : Nat × Nat), w.heap[k]? = some (.cells c e fz) → w'.heap[k]? = some (.cells c e fz)) : w'.ownsRow base e size v n xs := by
  refine ⟨h.1, ?_⟩
  rcases h.2 with h | ⟨g, cap, cur, h1, h2, h3, h4⟩
  · exact .inl h
  · exact .inr ⟨g, cap, cur, h1, h2, hk _ _ _ h3, h4⟩
theorem Gath.same {w w' : World} {base : Nat} {v : Value} {es : List Rul} (h : Gath w base v es) (hs : SameT w w') : Gath w' base v es := by
  obtain ⟨vs, hv, h1, h2, h3⟩ := h
  exact ⟨vs, hv, own_rows h1 hs.rows, fun i hi => ⟨own_rows (h2 i hi).1 hs.nums, (h2 i hi).2⟩, h3⟩
theorem SameT.below {w w' : World} (h : Below w.heap.size w w') : SameT w w' :=
  ⟨h.size, fun k c fz hk => (h.block k (Array.getElem?_eq_some_iff.1 hk).1).trans hk, fun k c fz hk => (h.block k (Array.getElem?_eq_some_iff.1 hk).1).trans hk⟩
theorem SameT.grown {w w' : World} {row : Option Nat} (hg : w.grownBy w' row) (hr : ∀ r, row = some r → ∀ c fz, w.heap[r]? ≠ some (.cells c 47 fz) ∧ w.heap[r]? ≠ some (.cells c 3 fz)) : SameT w w' :=
  ⟨hg.size, fun k c fz hk => (hg.block k (Array.getElem?_eq_some_iff.1 hk).1 (fun e => (hr k e.symm c fz).1 hk)).trans hk, fun k c fz hk => (hg.block k (Array.getElem?_eq_some_iff.1 hk).1 (fun e => (hr k e.symm c fz).2 hk)).trans hk⟩


theorem gath_ruls {w : World} {base : Nat} {v : Value} {es : List Rul} (h : Gath w base v es) : ∃ a cap, v = .slice a es.length cap ∧ IsRuls w a es.length cap es := by
  obtain ⟨vs, hv, h1, h2, _⟩ := h
  have hrow : ∀ i (hi : i < es.length), ∃ a l c, vs[i]'(by omega) = .slice a l c ∧ IsRow .i64 w a l c es[i].but := fun i hi => by
    obtain ⟨h3, h4⟩ := h2 i hi
    have hr := Row.owned h3
    obtain ⟨a, c, hf⟩ := hr.form
    rw [List.length_map] at hf
    rw [hf] at hr
    exact ⟨a, _, c, hf, (isRow_of_row hr h4.2.2.2.2).1⟩
  rcases h1.2 with ⟨rfl, h0⟩ | ⟨g, cap, cur, rfl, hb, hg, hle, hmx, hsz, htk⟩
  · have : es = [] := List.length_eq_zero_iff.1 h0
    subst this
    exact ⟨none, 0, rfl, rfl, Nat.le_refl _, Nat.zero_le _, fun h => by simp at h⟩
  · refine ⟨_, cap, rfl, rfl, hle, hmx, fun _ => ⟨g, 0, rfl, (Array.getElem?_eq_some_iff.1 hg).1, fun i hi => ?_⟩⟩
    obtain ⟨a, l, c, hvi, hri⟩ := hrow i hi
    refine ⟨cellsR es[i] (vs[i]'(by omega)), rfl, fun j hj => ?_, a, l, c, by rw [hvi]; rfl, hri, (h2 i hi).2.1, (h2 i hi).2.2.1, (h2 i hi).2.2.2.1, (h2 i hi).2.2.2.2.1⟩
    · have hj5 : j < 5 := by simpa [cellsR] using hj
      have hf := flatR_at es vs i j hv hi hj5
      rw [List.getElem?_eq_getElem hj] at hf
      rw [cell_of_row _ _ _ _ _ _ hg, Nat.zero_add]
      rw [← htk, List.getElem?_take] at hf
      split at hf
      · simpa using hf
      · cases hf
end Cal
end Go.Proofs.YtnieaeakaajleaaDoor
