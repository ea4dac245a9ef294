/- Helpers for regions that draw: two ways, and a condition that grows. -/
import Derived.Test.YtkemfifkjaclhaaDoorPL0
namespace Go.Proofs.YtkemfifkjaclhaaDoor
set_option linter.unusedVariables false
set_option linter.unusedSimpArgs false
open Go.RowKit Go
namespace Pl
theorem held_more {P : Program} {ops : Array Oper} {Q : Exit → Act → World → Prop} {md : Region.Mode} {S S' : World → Prop} (hS : ∀ w, S' w → S w) : ∀ (fuel : Nat) {listed : Array Bool} {a : Act} {w : World}, wpAnyH P md ops Q S' fuel listed a w → wpAnyH P md ops Q S fuel listed a w
  | 0, _, _, _, h => h
  | fuel + 1, _, _, _, h => ⟨h.1, fun i hi => wpOp_mono (fun _ _ h' => ⟨hS _ h'.1, held_more hS fuel h'.2⟩) (h.2 i hi)⟩
theorem held_two {P : Program} {ops : Array Oper} {Q : Exit → Act → World → Prop} {md : Region.Mode} {S : World → Prop} {fuel : Nat} {listed : Array Bool} {a : Act} {w : World} {i j : Nat} {o o' : Oper} (hi : ops[i]? = some o) (hj : ops[j]? = some o') (hr : Region.ready md ops listed = [i, j]) (hw : Region.wanted o (yielded ops a.tmps) = true) (hw' : Region.wanted o' (yielded ops a.tmps) = true)
    (h1 : ∀ K : Act → World → Prop, (∀ a' w', S w' → wpAnyH P md ops Q S fuel (listed.setIfInBounds i true) a' w' → K a' w') → Oper.wp P o a w K Q)
    (h2 : ∀ K : Act → World → Prop, (∀ a' w', S w' → wpAnyH P md ops Q S fuel (listed.setIfInBounds j true) a' w' → K a' w') → Oper.wp P o' a w K Q) : wpAnyH P md ops Q S (fuel + 1) listed a w := by
  refine wpAnyH_all hr (by simp) fun k hk => ?_
  simp only [List.mem_cons, List.not_mem_nil, or_false] at hk
  rcases hk with rfl | rfl
  · unfold wpOp
    simp only [hi, hw, if_true]
    exact .inl (h1 _ fun a' w' h1 h2 => ⟨h1, h2⟩)
  · unfold wpOp
    simp only [hj, hw', if_true]
    exact .inl (h2 _ fun a' w' h1 h2 => ⟨h1, h2⟩)
theorem wp_callOne {P : Program} {o : Oper} {a : Act} {K : Act → World → Prop} {Q : Exit → Act → World → Prop} {w : World} {f : Nat} {R : Ending → World → Prop} {v : Value} (hc : Calls P f #[v] w R) (hR : ∀ e w', R e w' → ∃ r, e = .returned r) (en : ∀ args w, (callFunc f args).run P w = .ok (.enter f args) w) (s : Operand) (tys : Array TypeId) {d : Option Nat} (hd : o.dst = d)
    (ho : o.op = .call { callee := .value (.func f), args := #[s], argTypes := tys }) (hs : a.eval s = v) (h : ∀ r w', R (.returned r) w' → K (a.put d r) w') : Oper.wp P o a w K Q := by
  have hx : (execOp a.eval o).run P w = .ok (.enter f #[v]) w := by
    unfold execOp
    have hs' := hs
    simp only [Act.eval] at hs'
    simp [ho, resolve, invoke, go_sem, en]
    first | exact hs' | (rw [← hs]; cases s <;> rfl) | (rw [← hs]; cases s <;> simp [Act.eval])
  unfold Oper.wp
  rw [hx, Oper.upon_enter]
  refine hc.mono fun e w' hr => ?_
  obtain ⟨r, rfl⟩ := hR e w' hr
  rw [hd]; exact h r w' hr
end Pl
end Go.Proofs.YtkemfifkjaclhaaDoor
