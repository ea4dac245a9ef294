/- A region that draws its order: what has come up waits for nothing that has not. -/
import Derived.Test.YtghocdiddolinaaGreatDoorJ9
namespace Go.Proofs.YtghocdiddolinaaGreatDoor
set_option linter.unusedVariables false
set_option linter.unusedSimpArgs false
open Go.RowKit Go
namespace RI
variable {P : Program} {ops : Array Oper} {Q : Exit → Act → World → Prop} {md : Region.Mode}

theorem up_set {listed : Array Bool} {i j : Nat} (h : listed.getD j false = true) : (listed.setIfInBounds i true).getD j false = true := by
  rw [Array.getD_eq_getD_getElem?, Array.getElem?_setIfInBounds]
  rw [Array.getD_eq_getD_getElem?] at h
  split
  · split
    · rfl
    · rename_i e hlt
      subst e
      rw [Array.getElem?_eq_none (by omega)] at h; exact h
  · exact h
theorem up_inv {listed : Array Bool} {i j : Nat} (h : (listed.setIfInBounds i true).getD j false = true) : j = i ∨ listed.getD j false = true := by
  by_cases e : j = i
  · exact .inl e
  · refine .inr ?_
    rw [Array.getD_eq_getD_getElem?, Array.getElem?_setIfInBounds, if_neg (Ne.symm e)] at h
    rwa [Array.getD_eq_getD_getElem?]
theorem up_else {listed : Array Bool} {i j : Nat} (h : j ≠ i) : (listed.setIfInBounds i true).getD j false = listed.getD j false := by
  rw [Array.getD_eq_getD_getElem?, Array.getElem?_setIfInBounds, if_neg (Ne.symm h), Array.getD_eq_getD_getElem?]
theorem up_same {listed : Array Bool} {i : Nat} (h : i < listed.size) : (listed.setIfInBounds i true).getD i false = true := by
  rw [Array.getD_eq_getD_getElem?, Array.getElem?_setIfInBounds, if_pos rfl, if_pos h]; rfl
theorem up_new (n j : Nat) : (Array.replicate n false).getD j false = false := by unfold Array.getD; split <;> simp
theorem not_up {listed : Array Bool} {i : Nat} (h : listed.getD i true = false) : listed.getD i false = false := by
  unfold Array.getD at h ⊢
  split
  · rename_i h1; simpa [h1] using h
  · rfl

/-- Whatever has come up, all that it waits for has come up. -/
def Closed (md : Region.Mode) (ops : Array Oper) (listed : Array Bool) : Prop := ∀ j o, ops[j]? = some o → listed.getD j false = true → ∀ e ∈ o.after, Region.binds md e = true → listed.getD e.on false = true
theorem Closed.new (n : Nat) : Closed md ops (Array.replicate n false) := fun j o _ h => by rw [up_new] at h; cases h
theorem Closed.put {listed : Array Bool} {i : Nat} {o : Oper} (h : Closed md ops listed) (hi : ops[i]? = some o) (haft : ∀ e ∈ o.after, Region.binds md e = true → listed.getD e.on false = true) : Closed md ops (listed.setIfInBounds i true) := by
  intro j o' hj hl e he hb
  rcases up_inv hl with rfl | hl
  · rw [hi] at hj
    obtain rfl := Option.some.inj hj
    exact up_set (haft e he hb)
  · exact up_set (h j o' hj hl e he hb)
/-- Does i wait for j, at last? -/
def reachB (md : Region.Mode) (ops : Array Oper) : Nat → Nat → Nat → Bool
  | 0, i, j => i == j
  | n + 1, i, j => i == j || ((ops[i]?).map fun o => o.after.any fun e => Region.binds md e && reachB md ops n e.on j).getD false
theorem Closed.reach {listed : Array Bool} (h : Closed md ops listed) : ∀ (n i j : Nat), reachB md ops n i j = true → listed.getD i false = true → listed.getD j false = true := by
  intro n
  induction n with
  | zero => intro i j hr hl; simp only [reachB, beq_iff_eq] at hr; subst hr; exact hl
  | succ n ih =>
    intro i j hr hl
    simp only [reachB, Bool.or_eq_true, beq_iff_eq] at hr
    rcases hr with rfl | hr
    · exact hl
    · cases hi : ops[i]? with
      | none => rw [hi] at hr; simp at hr
      | some o =>
        rw [hi] at hr
        simp only [Option.map_some, Option.getD_some] at hr
        obtain ⟨k, hk, he⟩ := Array.any_eq_true.1 hr
        simp only [Bool.and_eq_true] at he
        exact ih _ _ he.2 (h i o hi hl _ (Array.getElem_mem hk) he.1)
/-- What waits for i, at last, has not come up ahead of it. -/
theorem Closed.not {listed : Array Bool} (h : Closed md ops listed) {i j : Nat} (n : Nat) (hr : reachB md ops n j i = true) (hl : listed.getD i true = false) : listed.getD j false = false := by
  by_cases hj : listed.getD j false = true
  · have := h.reach n j i hr hj
    rw [not_up hl] at this; cases this
  · simpa using hj

theorem dep {o : Oper} {listed : Array Bool} (haft : ∀ e ∈ o.after, Region.binds .any e = true → listed.getD e.on false = true) (j : Nat) (h : o.after.any (fun e => e.on == j && Region.binds .any e) = true) : listed.getD j false = true := by
  obtain ⟨k, hk, he⟩ := Array.any_eq_true.1 h
  simp only [Bool.and_eq_true, beq_iff_eq] at he
  rw [← he.1]
  exact haft _ (Array.getElem_mem hk) he.2
theorem op_one {P : Program} {ops : Array Oper} {Q : Exit → Act → World → Prop} {i : Nat} {o : Oper} {a : Act} {w : World} {K : Act → World → Prop} (hi : ops[i]? = some o) (hw : Region.wanted o (yielded ops a.tmps) = true)
    (h : ∀ K' : Act → World → Prop, (∀ a' w', K a' w' → K' a' w') → Oper.wp P o a w K' Q) : wpOp P ops Q i K a w := by
  unfold wpOp
  simp only [hi, hw, if_true]
  exact .inl (h K fun _ _ h => h)
theorem op_val {P : Program} {ops : Array Oper} {Q : Exit → Act → World → Prop} {i : Nat} {o : Oper} {a : Act} {w : World} {K : Act → World → Prop} {v : Value} {d : Option Nat} (hi : ops[i]? = some o) (hw : Region.wanted o (yielded ops a.tmps) = true) (hd : o.dst = d)
    (hx : (execOp a.eval o).run P w = .ok (.value v) w) (h : K (a.put d v) w) : wpOp P ops Q i K a w := by
  refine op_one hi hw fun K' hK => ?_
  unfold Oper.wp
  rw [hx]
  exact hK _ _ (by rw [hd]; exact h)
theorem wp_region_inv2 {id : Nat} {a : Act} {w : World} (hm : P.follows .mixedOrders = true) (hb : backB ops = true) (Inv : Array Bool → Act → World → Prop) (h0 : Inv (Array.replicate ops.size false) a w.drew)
    (hstep : ∀ (i : Nat) (o : Oper) (listed : Array Bool) (a : Act) (w : World), ops[i]? = some o → listed.size = ops.size → listed.getD i true = false → (∀ e ∈ o.after, Region.binds .any e = true → listed.getD e.on false = true) → Closed .any ops listed → Inv listed a w →
      wpOp P ops Q i (fun a' w' => Inv (listed.setIfInBounds i true) a' w') a w)
    (hdone : ∀ (listed : Array Bool) (a : Act) (w : World), listed.size = ops.size → (∀ i, i < ops.size → listed.getD i true = true) → Inv listed a w → Q .normal a w) : (Code.region id ops true).wp P Q a w :=
  wp_region_inv hm hb (fun listed a w => Closed .any ops listed ∧ Inv listed a w) ⟨Closed.new _, h0⟩
    (fun i o listed a w hi hs hl haft hinv => wpOp_mono (fun _ _ h => ⟨hinv.1.put hi haft, h⟩) (hstep i o listed a w hi hs hl haft hinv.1 hinv.2))
    (fun listed a w hs hall hinv => hdone listed a w hs hall hinv.2)
end RI
end Go.Proofs.YtghocdiddolinaaGreatDoor
