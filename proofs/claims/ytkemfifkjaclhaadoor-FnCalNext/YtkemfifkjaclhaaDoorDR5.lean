/- The reader of drawn inputs: one number of a rule that was gathered is changed. -/
import Derived.Test.YtkemfifkjaclhaaDoorDR4
namespace Go.Proofs.YtkemfifkjaclhaaDoor
set_option linter.unusedVariables false
set_option linter.unusedSimpArgs false
open Go.RowKit Go
namespace Dr
open Cal (cellsR flatR flatR_snoc)

/-- A rule with another number at a field. -/
def setF (r : Rul) (j : Nat) (z : Int) : Rul := if j = 0 then { r with ev := z } else if j = 1 then { r with at_ := z } else if j = 2 then { r with fr := z } else { r with to_ := z }
theorem setF_but (r : Rul) (j : Nat) (z : Int) : (setF r j z).but = r.but := by
  unfold setF; split
  · rfl
  · split
    · rfl
    · split <;> rfl
theorem cellsF (r : Rul) (v : Value) (j : Nat) (hj : j < 4) (z : Int) : (cellsR r v).set j (.int .i64 z) = cellsR (setF r j z) v := by
  rcases (by omega : j = 0 ∨ j = 1 ∨ j = 2 ∨ j = 3) with rfl | rfl | rfl | rfl <;> rfl
theorem flat_setF : ∀ (L : List Rul) (vs : List Value) (q j : Nat) (_ : vs.length = L.length) (hq : q < L.length) (_ : j < 4) (z : Int),
    (flatR L vs).set (q * 5 + j) (.int .i64 z) = flatR (L.set q (setF L[q] j z)) vs := by
  intro L
  induction L with
  | nil => intro vs q j _ h; simp at h
  | cons e t ih =>
    intro vs q j hv hq hj z
    cases vs with
    | nil => simp at hv
    | cons v vs =>
      have hf : ∀ x : Rul, ∀ t, flatR (x :: t) (v :: vs) = cellsR x v ++ flatR t vs := fun _ _ => rfl
      have h5 : ∀ x : Rul, (cellsR x v).length = 5 := fun _ => rfl
      cases q with
      | zero =>
        rw [List.set_cons_zero, hf, hf, List.set_append_left _ _ (by rw [h5]; omega), Nat.zero_mul, Nat.zero_add, cellsF e v j hj z]
        rfl
      | succ q =>
        rw [List.set_cons_succ, hf, hf, List.set_append_right _ _ (by rw [h5]; omega), h5, show (q + 1) * 5 + j - 5 = q * 5 + j by omega, ih vs q j (by simpa using hv) (by simpa using hq) hj z]
        rfl
theorem rulIs_set {w : World} {x : Rul} {u : Value} {p : Addr} {v : Value} (h : RulIs w (cellsR x u) x) (hf : ∀ a l c, u = .slice a l c → 0 < l → ∀ b off, a = some ⟨b, off, none⟩ → p.block ≠ b) : RulIs (w.setCell p v) (cellsR x u) x := by
  obtain ⟨a, l, c, hu, hr, hz⟩ := h
  have hu' : u = .slice a l c := by simpa [cellsR] using hu
  refine ⟨a, l, c, hu, ?_, hz⟩
  obtain ⟨h1, h2, h3, h4, h5⟩ := hr
  refine ⟨h1, h2, h3, fun hl => ?_, h5⟩
  obtain ⟨b, off, rfl, hb1, hc⟩ := h4 hl
  refine ⟨b, off, rfl, by simpa using hb1, fun i hi => ?_⟩
  rw [← hc i hi]
  exact World.cell?_of_block (a := ⟨b, off + i, none⟩) (Below.heap_setCell w p v b (fun e => hf _ _ _ hu' hl b off rfl e.symm))
theorem rulIs_setF {w : World} {x : Rul} {u : Value} (h : RulIs w (cellsR x u) x) (j : Nat) (hj : j < 4) (z : Int) (hz : (Lit.int .i64 z).wf = true) : RulIs w (cellsR (setF x j z) u) (setF x j z) := by
  obtain ⟨a, l, c, hu, hr, h0, h1, h2, h3⟩ := h
  have hu' : u = .slice a l c := by simpa [cellsR] using hu
  subst hu'
  refine ⟨a, l, c, rfl, by rw [setF_but]; exact hr, ?_⟩
  rcases (by omega : j = 0 ∨ j = 1 ∨ j = 2 ∨ j = 3) with rfl | rfl | rfl | rfl
  · exact ⟨hz, h1, h2, h3⟩
  · exact ⟨h0, hz, h2, h3⟩
  · exact ⟨h0, h1, hz, h3⟩
  · exact ⟨h0, h1, h2, hz⟩
/-- One number is stored into a rule that was gathered. -/
theorem GathD.setF {w : World} {R F : Nat} {g cap : Nat} {es : List Rul} (h : GathD w R F (.slice (some ⟨g, 0, none⟩) es.length cap) es) {q j : Nat} (hq : q < es.length) (hj : j < 4) {z : Int} (hz : (Lit.int .i64 z).wf = true) :
    GathD (w.setCell ⟨g, q * 5 + j, none⟩ (.int .i64 z)) R F (.slice (some ⟨g, 0, none⟩) es.length cap) (es.set q (Dr.setF es[q] j z)) := by
  obtain ⟨vs, hv, hA, h2⟩ := h
  have hown : w.ownsRow F 43 5 (.slice (some ⟨g, 0, none⟩) es.length cap) es.length (flatR es vs) := by
    rcases hA with ⟨h0, _⟩ | h
    · omega
    · exact h
  have hset : (w.setCell ⟨g, q * 5 + j, none⟩ (.int .i64 z)).ownsRow F 43 5 (.slice (some ⟨g, 0, none⟩) es.length cap) es.length ((flatR es vs).set (q * 5 + j) (.int .i64 z)) := by
    refine ⟨by rw [List.length_set]; exact hown.1, .inr ?_⟩
    rcases hown.2 with ⟨h0, _⟩ | ⟨g', cap', cur, h1, h2, h3, h4, h5, h6, h7⟩
    · cases h0
    · simp only [Value.slice.injEq, Option.some.injEq, Addr.mk.injEq, and_true, true_and] at h1
      obtain ⟨rfl, rfl⟩ := h1
      have hH : Holds w g 43 cur := h3
      refine ⟨g, cap, cur.setIfInBounds (q * 5 + j) (.int .i64 z), rfl, h2, hH.set (q * 5 + j) _, h4, h5, by simpa using h6, ?_⟩
      rw [Array.toList_setIfInBounds, List.take_set, h7]
  rw [flat_setF es vs q j hv hq hj z] at hset
  refine ⟨vs, by rw [List.length_set]; exact hv, .inr (by rw [List.length_set]; exact hset), fun i hi => ?_⟩
  have hi' : i < es.length := by simpa using hi
  have hfar : ∀ a l c, vs[i]'(by omega) = .slice a l c → 0 < l → ∀ b off, a = some ⟨b, off, none⟩ → g ≠ b := fun a l c e hl b off ea h => ((h2 i hi').2 a l c e hl b off ea).1 (by rw [← h]; rfl)
  refine ⟨?_, (h2 i hi').2⟩
  by_cases e : q = i
  · subst e
    rw [List.getElem_set_self]
    exact rulIs_setF (rulIs_set (p := ⟨g, q * 5 + j, none⟩) (h2 q hi').1 hfar) j hj z hz
  · rw [List.getElem_set_ne e]
    exact rulIs_set (p := ⟨g, q * 5 + j, none⟩) (h2 i hi').1 hfar
end Dr
end Go.Proofs.YtkemfifkjaclhaaDoor
