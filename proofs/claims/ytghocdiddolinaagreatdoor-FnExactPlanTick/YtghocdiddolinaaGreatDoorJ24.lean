/- A region that draws its order, by a condition that each operation keeps: where an operation may name later ones, if only in modes that this one is not. -/
import Derived.Test.YtghocdiddolinaaGreatDoorJ3
import Derived.Test.YtghocdiddolinaaGreatDoorJ23
import Derived.Test.YtghocdiddolinaaGreatDoorJ20
import Derived.Test.YtghocdiddolinaaGreatDoorJ10
namespace Go.Proofs.YtghocdiddolinaaGreatDoor
set_option linter.unusedVariables false
set_option linter.unusedSimpArgs false
open Go.RowKit Go
namespace Pl

/-- What was told of a time is ok. -/
def ToldAt (rs : List Rul) (last : Int) (t : Tld) : Prop := (1 ≤ t.wh ∧ t.wh ≤ 5) ∧ t.tk ≤ last ∧ due rs t.tk = true
def WaitsOk (goes waits : List Int) : Prop := 0 < waits.length → 0 < goes.length ∧ goes.getD (goes.length - 1) 0 < waits.getD 0 0
structure PlanOk (p : Pla) : Prop where
  rules : calOk p.rs = true
  pol : 1 ≤ p.pol ∧ p.pol ≤ 5
  win : 0 ≤ p.win ∧ p.win ≤ 1000
  last : -1 ≤ p.last ∧ p.last ≤ 100000
  told60 : p.told.length ≤ 60
  goesN : (p.goes.length : Int) ≤ mostG p.pol
  waitsN : (p.waits.length : Int) ≤ mostW p.pol
  goes : times p.rs p.last p.goes = true
  waits : times p.rs p.last p.waits = true
  behind : WaitsOk p.goes p.waits
  told : ∀ i (h : i < p.told.length), ToldAt p.rs p.last p.told[i]
noncomputable def planOk (p : Pla) : Bool := @decide (PlanOk p) (Classical.propDecidable _)
theorem planOk_yes {p : Pla} (h : PlanOk p) : planOk p = true := by unfold planOk; exact @decide_eq_true _ (Classical.propDecidable _) h
theorem planOk_no {p : Pla} (h : ¬ PlanOk p) : planOk p = false := by unfold planOk; exact @decide_eq_false _ (Classical.propDecidable _) h
theorem planOk_ok {p : Pla} (h : planOk p = true) : PlanOk p := by unfold planOk at h; exact @of_decide_eq_true _ (Classical.propDecidable _) h
theorem mostG_bd (p : Int) : 0 ≤ mostG p ∧ mostG p ≤ 8 := by unfold mostG; split <;> omega
theorem mostW_bd (p : Int) : 0 ≤ mostW p ∧ mostW p ≤ 8 := by unfold mostW; split <;> (try split) <;> omega
end Pl
end Go.Proofs.YtghocdiddolinaaGreatDoor

namespace Go.Proofs.YtghocdiddolinaaGreatDoor
set_option linter.unusedVariables false
set_option linter.unusedSimpArgs false
open Go.RowKit Go
namespace Pl

/-- Of what was told the last sixty are kept. -/
def keep (l : List Tld) : List Tld := l.drop (l.length - 60)
theorem keep_small {l : List Tld} (h : l.length ≤ 60) : keep l = l := by unfold keep; rw [show l.length - 60 = 0 by omega]; rfl
theorem keep_len (l : List Tld) : (keep l).length ≤ 60 := by unfold keep; rw [List.length_drop]; omega
theorem keep_keep (l r : List Tld) : keep (keep l ++ r) = keep (l ++ r) := by
  unfold keep
  have e : l.drop (l.length - 60) ++ r = (l ++ r).drop (l.length - 60) := (List.drop_append_of_le_length (by omega)).symm
  rw [e, List.drop_drop]
  congr 1
  simp only [List.length_append, List.length_drop]; omega
/-- One more is told: as the model keeps it. -/
theorem keep_snoc {l : List Tld} (h : l.length ≤ 60) (t : Tld) : (if 60 < (l ++ [t]).length then (l ++ [t]).drop 1 else l ++ [t]) = keep (l ++ [t]) := by
  split
  · rename_i h1
    unfold keep
    congr 1
    simp only [List.length_append, List.length_singleton] at h1 ⊢; omega
  · rename_i h1
    exact (keep_small (by omega)).symm

/-- A time comes that is not too late: what goes on, what waits, what is told more. -/
def comes (pol : Int) (g w : List Int) (t : Int) : List Int × List Int × List Tld :=
  if pol = 5 ∧ 0 < g.length then ([t], w, [⟨g.getD 0 0, 4⟩, ⟨t, 1⟩])
  else if (g.length : Int) < mostG pol ∧ w.length = 0 then (g ++ [t], w, [⟨t, 1⟩])
  else if (w.length : Int) < mostW pol then (g, w ++ [t], [])
  else (g, w, [⟨t, 2⟩])
/-- A time that is looked at. -/
def looks (pol win now : Int) (g w : List Int) (t : Int) : List Int × List Int × List Tld :=
  if win < now - t then (g, w, [⟨t, 3⟩]) else comes pol g w t
/-- Times, one behind the other. -/
def looksAll (pol win now : Int) : List Int → List Int → List Int → List Int × List Int × List Tld
  | g, w, [] => (g, w, [])
  | g, w, t :: ts =>
    let r := looks pol win now g w t
    let s := looksAll pol win now r.1 r.2.1 ts
    (s.1, s.2.1, r.2.2 ++ s.2.2)
theorem looksAll_snoc (pol win now : Int) : ∀ (ts g w : List Int) (t : Int), looksAll pol win now g w (ts ++ [t]) =
    (let s := looksAll pol win now g w ts; let r := looks pol win now s.1 s.2.1 t; (r.1, r.2.1, s.2.2 ++ r.2.2))
  | [], g, w, t => by simp [looksAll]
  | x :: ts, g, w, t => by
    simp only [List.cons_append, looksAll]
    rw [looksAll_snoc pol win now ts]
    simp only [List.append_assoc]
/-- Not more goes on and waits than may. -/
def FitsIn (pol : Int) (g w : List Int) : Prop := (g.length : Int) ≤ mostG pol ∧ (w.length : Int) ≤ mostW pol
theorem mostG_pos {pol : Int} (h : 1 ≤ pol ∧ pol ≤ 5) : 1 ≤ mostG pol := by unfold mostG; split <;> omega
theorem comes_fits {pol : Int} {g w : List Int} (hp : 1 ≤ pol ∧ pol ≤ 5) (h : FitsIn pol g w) (t : Int) : FitsIn pol (comes pol g w t).1 (comes pol g w t).2.1 := by
  have h1 := mostG_pos hp
  obtain ⟨ha, hb⟩ := h
  unfold comes FitsIn
  split
  · exact ⟨by simpa using h1, hb⟩
  · split
    · rename_i h2
      exact ⟨by simp only [List.length_append, List.length_singleton]; omega, hb⟩
    · split
      · rename_i h3
        exact ⟨ha, by simp only [List.length_append, List.length_singleton]; omega⟩
      · exact ⟨ha, hb⟩
theorem looks_fits {pol win now : Int} {g w : List Int} (hp : 1 ≤ pol ∧ pol ≤ 5) (h : FitsIn pol g w) (t : Int) : FitsIn pol (looks pol win now g w t).1 (looks pol win now g w t).2.1 := by
  unfold looks; split
  · exact h
  · exact comes_fits hp h t
/-- The program's own way: room is made first ('instead' stops all that goes on), then it begins, waits or is skipped. -/
def comesI (pol : Int) (g w : List Int) (t : Int) : List Int × List Int × List Tld :=
  let g1 := if pol = 5 then [] else g
  let st : List Tld := if pol = 5 then g.map fun x => ⟨x, 4⟩ else []
  if (g1.length : Int) < mostG pol ∧ w.length = 0 then (g1 ++ [t], w, st ++ [⟨t, 1⟩])
  else if (w.length : Int) < mostW pol then (g1, w ++ [t], st)
  else (g1, w, st ++ [⟨t, 2⟩])
theorem comesI_eq {pol : Int} {g w : List Int} (h : FitsIn pol g w) (t : Int) : comesI pol g w t = comes pol g w t := by
  obtain ⟨ha, hb⟩ := h
  unfold comesI comes
  by_cases h5 : pol = 5
  · subst h5
    have hG : mostG 5 = 1 := by decide
    have hW : mostW 5 = 0 := by decide
    rw [hG] at ha
    rw [hW] at hb
    have hw : w = [] := List.length_eq_zero_iff.1 (by omega)
    subst hw
    match g, ha with
    | [], _ => simp [hG]
    | [x], _ => simp [hG]
    | x :: y :: r, ha => exact absurd ha (by simp only [List.length_cons]; omega)
  · simp [h5]
end Pl
end Go.Proofs.YtghocdiddolinaaGreatDoor

namespace Go.Proofs.YtghocdiddolinaaGreatDoor
set_option linter.unusedVariables false
set_option linter.unusedSimpArgs false
open Go.RowKit Go
namespace Pl
theorem held_more {P : Program} {ops : Array Oper} {Q : Exit → Act → World → Prop} {md : Region.Mode} {S S' : World → Prop} (hS : ∀ w, S' w → S w) : ∀ (fuel : Nat) {listed : Array Bool} {a : Act} {w : World}, wpAnyH P md ops Q S' fuel listed a w → wpAnyH P md ops Q S fuel listed a w
  | 0, _, _, _, h => h
  | fuel + 1, _, _, _, h => ⟨h.1, fun i hi => wpOp_mono (fun _ _ h' => ⟨hS _ h'.1, held_more hS fuel h'.2⟩) (h.2 i hi)⟩
theorem held_two {P : Program} {ops : Array Oper} {Q : Exit → Act → World → Prop} {md : Region.Mode} {S : World → Prop} {fuel : Nat} {listed : Array Bool} {a : Act} {w : World} {i j : Nat} {o o' : Oper} (hi : ops[i]? = some o) (hj : ops[j]? = some o') (hr : Region.ready md ops listed = [i, j]) (hw : Region.wanted o (yielded ops a.tmps) = true) (hw' : Region.wanted o' (yielded ops a.tmps) = true)
    (h1 : ∀ K : Act → World → Prop, (∀ a' w', S w' → wpAnyH P md ops Q S fuel (listed.setIfInBounds i true) a' w' → K a' w') → Oper.wp P o a w K Q)
    (h2 : ∀ K : Act → World → Prop, (∀ a' w', S w' → wpAnyH P md ops Q S fuel (listed.setIfInBounds j true) a' w' → K a' w') → Oper.wp P o' a w K Q) : wpAnyH P md ops Q S (fuel + 1) listed a w := by
  refine wpAnyH_all hr (by simp) fun k hk => ?_
  simp only [List.mem_cons, List.not_mem_nil, or_false] at hk
  rcases hk with rfl | rfl
  · unfold wpOp
    simp only [hi, hw, if_true]
    exact .inl (h1 _ fun a' w' h1 h2 => ⟨h1, h2⟩)
  · unfold wpOp
    simp only [hj, hw', if_true]
    exact .inl (h2 _ fun a' w' h1 h2 => ⟨h1, h2⟩)
theorem wp_callOne {P : Program} {o : Oper} {a : Act} {K : Act → World → Prop} {Q : Exit → Act → World → Prop} {w : World} {f : Nat} {R : Ending → World → Prop} {v : Value} (hc : Calls P f #[v] w R) (hR : ∀ e w', R e w' → ∃ r, e = .returned r) (en : ∀ args w, (callFunc f args).run P w = .ok (.enter f args) w) (s : Operand) (tys : Array TypeId) {d : Option Nat} (hd : o.dst = d)
    (ho : o.op = .call { callee := .value (.func f), args := #[s], argTypes := tys }) (hs : a.eval s = v) (h : ∀ r w', R (.returned r) w' → K (a.put d r) w') : Oper.wp P o a w K Q := by
  have hx : (execOp a.eval o).run P w = .ok (.enter f #[v]) w := by
    unfold execOp
    have hs' := hs
    simp only [Act.eval] at hs'
    simp [ho, resolve, invoke, go_sem, en]
    first | exact hs' | (rw [← hs]; cases s <;> rfl) | (rw [← hs]; cases s <;> simp [Act.eval])
  unfold Oper.wp
  rw [hx, Oper.upon_enter]
  refine hc.mono fun e w' hr => ?_
  obtain ⟨r, rfl⟩ := hR e w' hr
  rw [hd]; exact h r w' hr
end Pl
end Go.Proofs.YtghocdiddolinaaGreatDoor

namespace Go.Proofs.YtghocdiddolinaaGreatDoor
set_option linter.unusedVariables false
set_option linter.unusedSimpArgs false
open Go.RowKit Go
namespace RI
variable {P : Program} {ops : Array Oper} {Q : Exit → Act → World → Prop} {md : Region.Mode}

/-- Every operation waits for earlier ones alone, of those that bind. -/
def backM (md : Region.Mode) (ops : Array Oper) : Bool := (List.range ops.size).all fun i => ((ops[i]?).map fun o => o.after.all fun e => !Region.binds md e || decide (e.on < i)).getD true
theorem back_specM (h : backM md ops = true) {i : Nat} {o : Oper} (hi : ops[i]? = some o) : ∀ e ∈ o.after, Region.binds md e = true → e.on < i := by
  intro e he hb
  have hlt : i < ops.size := (Array.getElem?_eq_some_iff.1 hi).1
  have := List.all_eq_true.1 h i (List.mem_range.2 hlt)
  simp only [hi, Option.map_some, Option.getD_some] at this
  have := Array.all_eq_true_iff_forall_mem.1 this e he
  simpa [hb] using this
theorem all_listedM (hb : backM md ops = true) {listed : Array Bool} (hs : listed.size = ops.size) (h : Region.ready md ops listed = []) : ∀ i, i < ops.size → listed.getD i true = true := by
  intro i
  induction i using Nat.strongRecOn with
  | _ i ih =>
    intro hi
    by_cases hl : listed.getD i true = true
    · exact hl
    · have hl' : listed.getD i true = false := by simpa using hl
      have hm : i ∈ Region.ready md ops listed := ready_of (o := ops[i]) (Array.getElem?_eq_getElem hi) hl' fun e he hbe => by
        have hlt := back_specM hb (Array.getElem?_eq_getElem hi) e he hbe
        have := ih e.on hlt (by omega)
        have hsz : e.on < listed.size := by omega
        simpa [Array.getD, hsz] using this
      rw [h] at hm
      cases hm
theorem wpAny_invM (hb : backM md ops = true) (Inv : Array Bool → Act → World → Prop)
    (hstep : ∀ (i : Nat) (o : Oper) (listed : Array Bool) (a : Act) (w : World), ops[i]? = some o → listed.size = ops.size → listed.getD i true = false → (∀ e ∈ o.after, Region.binds md e = true → listed.getD e.on false = true) → Inv listed a w →
      wpOp P ops Q i (fun a' w' => Inv (listed.setIfInBounds i true) a' w') a w)
    (hdone : ∀ (listed : Array Bool) (a : Act) (w : World), listed.size = ops.size → (∀ i, i < ops.size → listed.getD i true = true) → Inv listed a w → Q .normal a w) :
    ∀ (fuel : Nat) (listed : Array Bool) (a : Act) (w : World), listed.size = ops.size → left listed ≤ fuel → Inv listed a w → wpAny P md ops Q fuel listed a w := by
  intro fuel
  induction fuel with
  | zero =>
    intro listed a w hs hl hi
    have hr : Region.ready md ops listed = [] := by
      cases hr : Region.ready md ops listed with
      | nil => rfl
      | cons i t =>
        obtain ⟨o, h1, h2, h3⟩ := mem_ready' (md := md) (ops := ops) (listed := listed) (i := i) (by rw [hr]; simp)
        have := left_set h2
        omega
    exact ⟨hr, hdone listed a w hs (all_listedM hb hs hr) hi⟩
  | succ fuel ih =>
    intro listed a w hs hl hi
    refine ⟨fun hr => hdone listed a w hs (all_listedM hb hs hr) hi, fun i hm => ?_⟩
    obtain ⟨o, h1, h2, h3⟩ := mem_ready' hm
    have hl2 := left_set h2
    exact wpOp_mono (fun a' w' h => ih _ a' w' (by simpa using hs) (by omega) h) (hstep i o listed a w h1 hs h2 h3 hi)
/-- THE RULE. N is how many operations there are. -/
theorem wp_region_invN {id : Nat} {a : Act} {w : World} (N : Nat) (hN : ops.size = N) (hm : P.follows .mixedOrders = true) (hb : backM .any ops = true) (Inv : Array Bool → Act → World → Prop) (h0 : Inv (Array.replicate N false) a w.drew)
    (hstep : ∀ (i : Nat) (o : Oper) (listed : Array Bool) (a : Act) (w : World), ops[i]? = some o → listed.size = N → listed.getD i true = false → (∀ e ∈ o.after, Region.binds .any e = true → listed.getD e.on false = true) → Closed .any ops listed → Inv listed a w →
      wpOp P ops Q i (fun a' w' => Inv (listed.setIfInBounds i true) a' w') a w)
    (hdone : ∀ (listed : Array Bool) (a : Act) (w : World), listed.size = N → (∀ i, i < N → listed.getD i true = true) → Inv listed a w → Q .normal a w) : (Code.region id ops true).wp P Q a w := by
  subst hN
  exact wp_region_any hm (wpAny_invM hb (fun listed a w => Closed .any ops listed ∧ Inv listed a w)
    (fun i o listed a w hi hs hl haft hinv => wpOp_mono (fun _ _ h => ⟨hinv.1.put hi haft, h⟩) (hstep i o listed a w hi hs hl haft hinv.1 hinv.2))
    (fun listed a w hs hall hinv => hdone listed a w hs hall hinv.2) ops.size _ a _ (by simp) (by rw [left_new]; exact Nat.le_refl _) ⟨Closed.new _, h0⟩)
end RI
end Go.Proofs.YtghocdiddolinaaGreatDoor
