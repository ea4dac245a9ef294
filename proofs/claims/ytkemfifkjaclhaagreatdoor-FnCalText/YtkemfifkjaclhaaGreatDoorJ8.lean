/- Helpers for regions that draw: two ways, and a condition that grows. -/
import Derived.Test.YtkemfifkjaclhaaGreatDoorProg
import Derived.OrdersHeld
import Derived.WalkKit
import Derived.Test.YtkemfifkjaclhaaGreatDoorJ1
import Derived.Deep.CutBlock
import Derived.Deep.DeepCutAuto
import Derived.Deep.RegionHeld3
import Derived.Shelf.Abstract
namespace Go.Proofs.YtkemfifkjaclhaaGreatDoor
set_option linter.unusedVariables false
set_option linter.unusedSimpArgs false
open Go.RowKit Go
namespace RI

variable {P : Program} {ops : Array Oper} {Q : Exit → Act → World → Prop} {md : Region.Mode}

/-- Every operation waits for earlier ones alone. -/
def backB (ops : Array Oper) : Bool := (List.range ops.size).all fun i => ((ops[i]?).map fun o => o.after.all fun e => decide (e.on < i)).getD true
theorem back_spec (h : backB ops = true) {i : Nat} {o : Oper} (hi : ops[i]? = some o) : ∀ e ∈ o.after, e.on < i := by
  intro e he
  have hlt : i < ops.size := (Array.getElem?_eq_some_iff.1 hi).1
  have := List.all_eq_true.1 h i (List.mem_range.2 hlt)
  simp only [hi, Option.map_some, Option.getD_some] at this
  simpa using Array.all_eq_true_iff_forall_mem.1 this e he

theorem mem_ready' {listed : Array Bool} {i : Nat} (h : i ∈ Region.ready md ops listed) : ∃ o, ops[i]? = some o ∧ listed.getD i true = false ∧ ∀ e ∈ o.after, Region.binds md e = true → listed.getD e.on false = true := by
  obtain ⟨h1, o, h2, h3⟩ := mem_ready.1 h
  exact ⟨o, h2, h1, h3⟩
theorem ready_of {listed : Array Bool} {i : Nat} {o : Oper} (hi : ops[i]? = some o) (h1 : listed.getD i true = false) (h3 : ∀ e ∈ o.after, Region.binds md e = true → listed.getD e.on false = true) : i ∈ Region.ready md ops listed :=
  mem_ready.2 ⟨h1, o, hi, h3⟩

/-- Nothing may come up just when all has come up. -/
theorem all_listed (hb : backB ops = true) {listed : Array Bool} (hs : listed.size = ops.size) (h : Region.ready md ops listed = []) : ∀ i, i < ops.size → listed.getD i true = true := by
  intro i
  induction i using Nat.strongRecOn with
  | _ i ih =>
    intro hi
    by_cases hl : listed.getD i true = true
    · exact hl
    · have hl' : listed.getD i true = false := by simpa using hl
      have hm : i ∈ Region.ready md ops listed := ready_of (o := ops[i]) (Array.getElem?_eq_getElem hi) hl' fun e he _ => by
        have hlt := back_spec hb (Array.getElem?_eq_getElem hi) e he
        have := ih e.on hlt (by omega)
        have hsz : e.on < listed.size := by omega
        simpa [Array.getD, hsz] using this
      rw [h] at hm
      cases hm

/-- How many have not come up. -/
def left (listed : Array Bool) : Nat := listed.toList.countP fun b => !b
theorem left_set {listed : Array Bool} {i : Nat} (h : listed.getD i true = false) : left (listed.setIfInBounds i true) + 1 = left listed := by
  have hi : i < listed.size := by
    by_cases h' : i < listed.size
    · exact h'
    · simp [Array.getD, h'] at h
  have hv : listed.toList[i]'(by simpa using hi) = false := by simpa [Array.getD, hi] using h
  unfold left
  rw [Array.toList_setIfInBounds]
  have key : ∀ (l : List Bool) (i : Nat) (hi : i < l.length), l[i] = false → (l.set i true).countP (fun b => !b) + 1 = l.countP (fun b => !b) := by
    intro l
    induction l with
    | nil => intro i hi; simp at hi
    | cons x t ih =>
      intro i hi hx
      cases i with
      | zero =>
        simp only [List.getElem_cons_zero] at hx
        subst hx
        simp
      | succ i =>
        simp only [List.getElem_cons_succ] at hx
        have := ih i (by simpa using hi) hx
        simp only [List.set_cons_succ, List.countP_cons]
        omega
  exact key _ i (by simpa using hi) hv

/-- THE RULE: Inv is kept by each operation that may come up; when all have come up it gives Q. -/
theorem wpAny_inv (hb : backB ops = true) (Inv : Array Bool → Act → World → Prop)
    (hstep : ∀ (i : Nat) (o : Oper) (listed : Array Bool) (a : Act) (w : World), ops[i]? = some o → listed.size = ops.size → listed.getD i true = false → (∀ e ∈ o.after, Region.binds md e = true → listed.getD e.on false = true) → Inv listed a w →
      wpOp P ops Q i (fun a' w' => Inv (listed.setIfInBounds i true) a' w') a w)
    (hdone : ∀ (listed : Array Bool) (a : Act) (w : World), listed.size = ops.size → (∀ i, i < ops.size → listed.getD i true = true) → Inv listed a w → Q .normal a w) :
    ∀ (fuel : Nat) (listed : Array Bool) (a : Act) (w : World), listed.size = ops.size → left listed ≤ fuel → Inv listed a w → wpAny P md ops Q fuel listed a w := by
  intro fuel
  induction fuel with
  | zero =>
    intro listed a w hs hl hi
    have hr : Region.ready md ops listed = [] := by
      cases hr : Region.ready md ops listed with
      | nil => rfl
      | cons i t =>
        obtain ⟨o, h1, h2, h3⟩ := mem_ready' (md := md) (ops := ops) (listed := listed) (i := i) (by rw [hr]; simp)
        have := left_set h2
        omega
    exact ⟨hr, hdone listed a w hs (all_listed hb hs hr) hi⟩
  | succ fuel ih =>
    intro listed a w hs hl hi
    refine ⟨fun hr => hdone listed a w hs (all_listed hb hs hr) hi, fun i hm => ?_⟩
    obtain ⟨o, h1, h2, h3⟩ := mem_ready' hm
    have hl2 := left_set h2
    exact wpOp_mono (fun a' w' h => ih _ a' w' (by simpa using hs) (by omega) h) (hstep i o listed a w h1 hs h2 h3 hi)

theorem left_new (n : Nat) : left (Array.replicate n false) = n := by
  unfold left; rw [Array.toList_replicate, List.countP_replicate]; rfl

/-- A region that draws, by such a condition. -/
theorem wp_region_inv {id : Nat} {a : Act} {w : World} (hm : P.follows .mixedOrders = true) (hb : backB ops = true) (Inv : Array Bool → Act → World → Prop) (h0 : Inv (Array.replicate ops.size false) a w.drew)
    (hstep : ∀ (i : Nat) (o : Oper) (listed : Array Bool) (a : Act) (w : World), ops[i]? = some o → listed.size = ops.size → listed.getD i true = false → (∀ e ∈ o.after, Region.binds .any e = true → listed.getD e.on false = true) → Inv listed a w →
      wpOp P ops Q i (fun a' w' => Inv (listed.setIfInBounds i true) a' w') a w)
    (hdone : ∀ (listed : Array Bool) (a : Act) (w : World), listed.size = ops.size → (∀ i, i < ops.size → listed.getD i true = true) → Inv listed a w → Q .normal a w) : (Code.region id ops true).wp P Q a w :=
  wp_region_any hm (wpAny_inv hb Inv hstep hdone ops.size _ a _ (by simp) (by rw [left_new]; exact Nat.le_refl _) h0)
end RI
end Go.Proofs.YtkemfifkjaclhaaGreatDoor

namespace Go.Proofs.YtkemfifkjaclhaaGreatDoor
set_option linter.unusedVariables false
set_option linter.unusedSimpArgs false
open Go.RowKit Go
namespace RI
variable {P : Program} {ops : Array Oper} {Q : Exit → Act → World → Prop} {md : Region.Mode}

theorem up_set {listed : Array Bool} {i j : Nat} (h : listed.getD j false = true) : (listed.setIfInBounds i true).getD j false = true := by
  rw [Array.getD_eq_getD_getElem?, Array.getElem?_setIfInBounds]
  rw [Array.getD_eq_getD_getElem?] at h
  split
  · split
    · rfl
    · rename_i e hlt
      subst e
      rw [Array.getElem?_eq_none (by omega)] at h; exact h
  · exact h
theorem up_inv {listed : Array Bool} {i j : Nat} (h : (listed.setIfInBounds i true).getD j false = true) : j = i ∨ listed.getD j false = true := by
  by_cases e : j = i
  · exact .inl e
  · refine .inr ?_
    rw [Array.getD_eq_getD_getElem?, Array.getElem?_setIfInBounds, if_neg (Ne.symm e)] at h
    rwa [Array.getD_eq_getD_getElem?]
theorem up_else {listed : Array Bool} {i j : Nat} (h : j ≠ i) : (listed.setIfInBounds i true).getD j false = listed.getD j false := by
  rw [Array.getD_eq_getD_getElem?, Array.getElem?_setIfInBounds, if_neg (Ne.symm h), Array.getD_eq_getD_getElem?]
theorem up_same {listed : Array Bool} {i : Nat} (h : i < listed.size) : (listed.setIfInBounds i true).getD i false = true := by
  rw [Array.getD_eq_getD_getElem?, Array.getElem?_setIfInBounds, if_pos rfl, if_pos h]; rfl
theorem up_new (n j : Nat) : (Array.replicate n false).getD j false = false := by unfold Array.getD; split <;> simp
theorem not_up {listed : Array Bool} {i : Nat} (h : listed.getD i true = false) : listed.getD i false = false := by
  unfold Array.getD at h ⊢
  split
  · rename_i h1; simpa [h1] using h
  · rfl

/-- Whatever has come up, all that it waits for has come up. -/
def Closed (md : Region.Mode) (ops : Array Oper) (listed : Array Bool) : Prop := ∀ j o, ops[j]? = some o → listed.getD j false = true → ∀ e ∈ o.after, Region.binds md e = true → listed.getD e.on false = true
theorem Closed.new (n : Nat) : Closed md ops (Array.replicate n false) := fun j o _ h => by rw [up_new] at h; cases h
theorem Closed.put {listed : Array Bool} {i : Nat} {o : Oper} (h : Closed md ops listed) (hi : ops[i]? = some o) (haft : ∀ e ∈ o.after, Region.binds md e = true → listed.getD e.on false = true) : Closed md ops (listed.setIfInBounds i true) := by
  intro j o' hj hl e he hb
  rcases up_inv hl with rfl | hl
  · rw [hi] at hj
    obtain rfl := Option.some.inj hj
    exact up_set (haft e he hb)
  · exact up_set (h j o' hj hl e he hb)
/-- Does i wait for j, at last? -/
def reachB (md : Region.Mode) (ops : Array Oper) : Nat → Nat → Nat → Bool
  | 0, i, j => i == j
  | n + 1, i, j => i == j || ((ops[i]?).map fun o => o.after.any fun e => Region.binds md e && reachB md ops n e.on j).getD false
theorem Closed.reach {listed : Array Bool} (h : Closed md ops listed) : ∀ (n i j : Nat), reachB md ops n i j = true → listed.getD i false = true → listed.getD j false = true := by
  intro n
  induction n with
  | zero => intro i j hr hl; simp only [reachB, beq_iff_eq] at hr; subst hr; exact hl
  | succ n ih =>
    intro i j hr hl
    simp only [reachB, Bool.or_eq_true, beq_iff_eq] at hr
    rcases hr with rfl | hr
    · exact hl
    · cases hi : ops[i]? with
      | none => rw [hi] at hr; simp at hr
      | some o =>
        rw [hi] at hr
        simp only [Option.map_some, Option.getD_some] at hr
        obtain ⟨k, hk, he⟩ := Array.any_eq_true.1 hr
        simp only [Bool.and_eq_true] at he
        exact ih _ _ he.2 (h i o hi hl _ (Array.getElem_mem hk) he.1)
/-- What waits for i, at last, has not come up ahead of it. -/
theorem Closed.not {listed : Array Bool} (h : Closed md ops listed) {i j : Nat} (n : Nat) (hr : reachB md ops n j i = true) (hl : listed.getD i true = false) : listed.getD j false = false := by
  by_cases hj : listed.getD j false = true
  · have := h.reach n j i hr hj
    rw [not_up hl] at this; cases this
  · simpa using hj

theorem wp_region_inv2 {id : Nat} {a : Act} {w : World} (hm : P.follows .mixedOrders = true) (hb : backB ops = true) (Inv : Array Bool → Act → World → Prop) (h0 : Inv (Array.replicate ops.size false) a w.drew)
    (hstep : ∀ (i : Nat) (o : Oper) (listed : Array Bool) (a : Act) (w : World), ops[i]? = some o → listed.size = ops.size → listed.getD i true = false → (∀ e ∈ o.after, Region.binds .any e = true → listed.getD e.on false = true) → Closed .any ops listed → Inv listed a w →
      wpOp P ops Q i (fun a' w' => Inv (listed.setIfInBounds i true) a' w') a w)
    (hdone : ∀ (listed : Array Bool) (a : Act) (w : World), listed.size = ops.size → (∀ i, i < ops.size → listed.getD i true = true) → Inv listed a w → Q .normal a w) : (Code.region id ops true).wp P Q a w :=
  wp_region_inv hm hb (fun listed a w => Closed .any ops listed ∧ Inv listed a w) ⟨Closed.new _, h0⟩
    (fun i o listed a w hi hs hl haft hinv => wpOp_mono (fun _ _ h => ⟨hinv.1.put hi haft, h⟩) (hstep i o listed a w hi hs hl haft hinv.1 hinv.2))
    (fun listed a w hs hall hinv => hdone listed a w hs hall hinv.2)
end RI
end Go.Proofs.YtkemfifkjaclhaaGreatDoor

namespace Go.Proofs.YtkemfifkjaclhaaGreatDoor
set_option linter.unusedVariables false
set_option linter.unusedSimpArgs false
open Go.RowKit Go
namespace Pl

theorem undrewP {B : Nat} {w w' : World} (h : Below B w.drew w') : Below B w w' := ⟨h.os, h.tape, h.output, h.size, h.block⟩
theorem held_one {P : Program} {ops : Array Oper} {Q : Exit → Act → World → Prop} {md : Region.Mode} {S : World → Prop} {fuel : Nat} {listed : Array Bool} {a : Act} {w : World} {i : Nat} {o : Oper} (hi : ops[i]? = some o) (hr : Region.ready md ops listed = [i]) (hw : Region.wanted o (yielded ops a.tmps) = true)
    (h : ∀ K : Act → World → Prop, (∀ a' w', S w' → wpAnyH P md ops Q S fuel (listed.setIfInBounds i true) a' w' → K a' w') → Oper.wp P o a w K Q) : wpAnyH P md ops Q S (fuel + 1) listed a w := by
  refine wpAnyH_all hr (by simp) fun j hj => ?_
  simp only [List.mem_singleton] at hj
  subst hj
  unfold wpOp
  simp only [hi, hw, if_true]
  exact .inl (h _ fun a' w' h1 h2 => ⟨h1, h2⟩)
/-- One that may come up at any time comes up: what it writes is told by its slot. -/
theorem wpAnyH_go {P : Program} {ops : Array Oper} {Q : Exit → Act → World → Prop} {md : Region.Mode} {S : World → Prop} {i : Nat} {oi : Oper} {d : Option Nat} {v : Value} {fuel : Nat} {listed : Array Bool} {a : Act} {w : World} (hi : ops[i]? = some oi) (hd : oi.dst = d)
    (hs : Region.noSelect ops = true) (hf : Region.free md ops listed i = true) (hr : (Region.ready md ops listed).contains i = true)
    (hQ : ∀ c a w, Q (.panic c) (a.put oi.dst v) w → Q (.panic c) a w) (hy : YieldsIf P ops S oi v a) (hS : S w)
    (h : wpAnyH P md ops Q S fuel (listed.setIfInBounds i true) (a.put d v) w) : wpAnyH P md ops Q S (fuel + 1) listed a w :=
  wpAnyH_take hi hs hf hr hQ hy hS (by rw [hd]; exact h)
theorem wp_callTwo {P : Program} {o : Oper} {a : Act} {K : Act → World → Prop} {Q : Exit → Act → World → Prop} {w : World} {f : Nat} {R : Ending → World → Prop} {v u : Value} (hc : Calls P f #[v, u] w R) (hR : ∀ e w', R e w' → ∃ r, e = .returned r) (en : ∀ args w, (callFunc f args).run P w = .ok (.enter f args) w) (s t : Operand) (tys : Array TypeId) {d : Option Nat} (hd : o.dst = d)
    (ho : o.op = .call { callee := .value (.func f), args := #[s, t], argTypes := tys }) (hs : a.eval s = v) (ht : a.eval t = u) (h : ∀ r w', R (.returned r) w' → K (a.put d r) w') : Oper.wp P o a w K Q := by
  have hx : (execOp a.eval o).run P w = .ok (.enter f #[v, u]) w := by
    unfold execOp
    simp [ho, resolve, invoke, go_sem, en, hs, ht]
    first | done | exact ⟨hs, ht⟩ | (rw [← hs, ← ht]; cases s <;> cases t <;> first | rfl | simp [Act.eval])
  unfold Oper.wp
  rw [hx, Oper.upon_enter]
  refine hc.mono fun e w' hr => ?_
  obtain ⟨r, rfl⟩ := hR e w' hr
  rw [hd]; exact h r w' hr
end Pl
end Go.Proofs.YtkemfifkjaclhaaGreatDoor

namespace Go.Proofs.YtkemfifkjaclhaaGreatDoor
set_option linter.unusedVariables false
set_option linter.unusedSimpArgs false
open Go.RowKit Go
namespace Pl
theorem held_more {P : Program} {ops : Array Oper} {Q : Exit → Act → World → Prop} {md : Region.Mode} {S S' : World → Prop} (hS : ∀ w, S' w → S w) : ∀ (fuel : Nat) {listed : Array Bool} {a : Act} {w : World}, wpAnyH P md ops Q S' fuel listed a w → wpAnyH P md ops Q S fuel listed a w
  | 0, _, _, _, h => h
  | fuel + 1, _, _, _, h => ⟨h.1, fun i hi => wpOp_mono (fun _ _ h' => ⟨hS _ h'.1, held_more hS fuel h'.2⟩) (h.2 i hi)⟩
theorem held_two {P : Program} {ops : Array Oper} {Q : Exit → Act → World → Prop} {md : Region.Mode} {S : World → Prop} {fuel : Nat} {listed : Array Bool} {a : Act} {w : World} {i j : Nat} {o o' : Oper} (hi : ops[i]? = some o) (hj : ops[j]? = some o') (hr : Region.ready md ops listed = [i, j]) (hw : Region.wanted o (yielded ops a.tmps) = true) (hw' : Region.wanted o' (yielded ops a.tmps) = true)
    (h1 : ∀ K : Act → World → Prop, (∀ a' w', S w' → wpAnyH P md ops Q S fuel (listed.setIfInBounds i true) a' w' → K a' w') → Oper.wp P o a w K Q)
    (h2 : ∀ K : Act → World → Prop, (∀ a' w', S w' → wpAnyH P md ops Q S fuel (listed.setIfInBounds j true) a' w' → K a' w') → Oper.wp P o' a w K Q) : wpAnyH P md ops Q S (fuel + 1) listed a w := by
  refine wpAnyH_all hr (by simp) fun k hk => ?_
  simp only [List.mem_cons, List.not_mem_nil, or_false] at hk
  rcases hk with rfl | rfl
  · unfold wpOp
    simp only [hi, hw, if_true]
    exact .inl (h1 _ fun a' w' h1 h2 => ⟨h1, h2⟩)
  · unfold wpOp
    simp only [hj, hw', if_true]
    exact .inl (h2 _ fun a' w' h1 h2 => ⟨h1, h2⟩)
theorem wp_callOne {P : Program} {o : Oper} {a : Act} {K : Act → World → Prop} {Q : Exit → Act → World → Prop} {w : World} {f : Nat} {R : Ending → World → Prop} {v : Value} (hc : Calls P f #[v] w R) (hR : ∀ e w', R e w' → ∃ r, e = .returned r) (en : ∀ args w, (callFunc f args).run P w = .ok (.enter f args) w) (s : Operand) (tys : Array TypeId) {d : Option Nat} (hd : o.dst = d)
    (ho : o.op = .call { callee := .value (.func f), args := #[s], argTypes := tys }) (hs : a.eval s = v) (h : ∀ r w', R (.returned r) w' → K (a.put d r) w') : Oper.wp P o a w K Q := by
  have hx : (execOp a.eval o).run P w = .ok (.enter f #[v]) w := by
    unfold execOp
    have hs' := hs
    simp only [Act.eval] at hs'
    simp [ho, resolve, invoke, go_sem, en]
    first | exact hs' | (rw [← hs]; cases s <;> rfl) | (rw [← hs]; cases s <;> simp [Act.eval])
  unfold Oper.wp
  rw [hx, Oper.upon_enter]
  refine hc.mono fun e w' hr => ?_
  obtain ⟨r, rfl⟩ := hR e w' hr
  rw [hd]; exact h r w' hr
end Pl
end Go.Proofs.YtkemfifkjaclhaaGreatDoor
