/- The model's calendars: which ticks are left out. -/
import Derived.Test.YtghocdiddolinaaGreatDoorJ1
import Derived.Deep.CutBlock
import Derived.Deep.DeepCutAuto
import Derived.Deep.RegionHeld3
import Derived.OrdersHeld
import Derived.Shelf.Abstract
import Derived.Test.YtghocdiddolinaaGreatDoorJ14
import Derived.Deep.RegionWith
import Derived.BigGuard
import Derived.BigRegion
namespace Go.Proofs.YtghocdiddolinaaGreatDoor
set_option linter.unusedVariables false
set_option linter.unusedSimpArgs false
open Go.RowKit Go
namespace Pl

theorem undrewP {B : Nat} {w w' : World} (h : Below B w.drew w') : Below B w w' := ⟨h.os, h.tape, h.output, h.size, h.block⟩
theorem held_one {P : Program} {ops : Array Oper} {Q : Exit → Act → World → Prop} {md : Region.Mode} {S : World → Prop} {fuel : Nat} {listed : Array Bool} {a : Act} {w : World} {i : Nat} {o : Oper} (hi : ops[i]? = some o) (hr : Region.ready md ops listed = [i]) (hw : Region.wanted o (yielded ops a.tmps) = true)
    (h : ∀ K : Act → World → Prop, (∀ a' w', S w' → wpAnyH P md ops Q S fuel (listed.setIfInBounds i true) a' w' → K a' w') → Oper.wp P o a w K Q) : wpAnyH P md ops Q S (fuel + 1) listed a w := by
  refine wpAnyH_all hr (by simp) fun j hj => ?_
  simp only [List.mem_singleton] at hj
  subst hj
  unfold wpOp
  simp only [hi, hw, if_true]
  exact .inl (h _ fun a' w' h1 h2 => ⟨h1, h2⟩)
/-- One that may come up at any time comes up: what it writes is told by its slot. -/
theorem wpAnyH_go {P : Program} {ops : Array Oper} {Q : Exit → Act → World → Prop} {md : Region.Mode} {S : World → Prop} {i : Nat} {oi : Oper} {d : Option Nat} {v : Value} {fuel : Nat} {listed : Array Bool} {a : Act} {w : World} (hi : ops[i]? = some oi) (hd : oi.dst = d)
    (hs : Region.noSelect ops = true) (hf : Region.free md ops listed i = true) (hr : (Region.ready md ops listed).contains i = true)
    (hQ : ∀ c a w, Q (.panic c) (a.put oi.dst v) w → Q (.panic c) a w) (hy : YieldsIf P ops S oi v a) (hS : S w)
    (h : wpAnyH P md ops Q S fuel (listed.setIfInBounds i true) (a.put d v) w) : wpAnyH P md ops Q S (fuel + 1) listed a w :=
  wpAnyH_take hi hs hf hr hQ hy hS (by rw [hd]; exact h)
theorem wp_callTwo {P : Program} {o : Oper} {a : Act} {K : Act → World → Prop} {Q : Exit → Act → World → Prop} {w : World} {f : Nat} {R : Ending → World → Prop} {v u : Value} (hc : Calls P f #[v, u] w R) (hR : ∀ e w', R e w' → ∃ r, e = .returned r) (en : ∀ args w, (callFunc f args).run P w = .ok (.enter f args) w) (s t : Operand) (tys : Array TypeId) {d : Option Nat} (hd : o.dst = d)
    (ho : o.op = .call { callee := .value (.func f), args := #[s, t], argTypes := tys }) (hs : a.eval s = v) (ht : a.eval t = u) (h : ∀ r w', R (.returned r) w' → K (a.put d r) w') : Oper.wp P o a w K Q := by
  have hx : (execOp a.eval o).run P w = .ok (.enter f #[v, u]) w := by
    unfold execOp
    simp [ho, resolve, invoke, go_sem, en, hs, ht]
    first | done | exact ⟨hs, ht⟩ | (rw [← hs, ← ht]; cases s <;> cases t <;> first | rfl | simp [Act.eval])
  unfold Oper.wp
  rw [hx, Oper.upon_enter]
  refine hc.mono fun e w' hr => ?_
  obtain ⟨r, rfl⟩ := hR e w' hr
  rw [hd]; exact h r w' hr
end Pl
end Go.Proofs.YtghocdiddolinaaGreatDoor

namespace Go.Proofs.YtghocdiddolinaaGreatDoor
set_option linter.unusedVariables false
set_option linter.unusedSimpArgs false
open Go.RowKit Go

def CalOk (rs : List Rul) : Prop := (∀ i (h : i < rs.length), RuleOk rs[i]) ∧ 1 ≤ rs.length ∧ rs.length ≤ 4
def calOk (rs : List Rul) : Bool := rs.all ruleOk && decide ((1 : Int) ≤ (rs.length : Int) ∧ (rs.length : Int) ≤ 4)
theorem calOk_no {rs : List Rul} {k : Nat} (hk : k < rs.length) (h : ruleOk rs[k] = false) : calOk rs = false := by
  have : rs.all ruleOk = false := by rw [List.all_eq_false]; exact ⟨rs[k], List.getElem_mem hk, by simp [h]⟩
  simp [calOk, this]
theorem calOk_all {rs : List Rul} (h : ∀ i (hi : i < rs.length), ruleOk rs[i] = true) : calOk rs = decide ((1 : Int) ≤ (rs.length : Int) ∧ (rs.length : Int) ≤ 4) := by
  have : rs.all ruleOk = true := by rw [List.all_eq_true]; intro x hx; obtain ⟨i, hi, rfl⟩ := List.mem_iff_getElem.1 hx; exact h i hi
  simp only [calOk, this, Bool.true_and]
theorem calOk_rules {rs : List Rul} (h : calOk rs = true) : ∀ i (hi : i < rs.length), RuleOk rs[i] := by
  intro i hi
  simp only [calOk, Bool.and_eq_true, List.all_eq_true] at h
  have := h.1 _ (List.getElem_mem hi)
  simpa [ruleOk] using this

set_option maxHeartbeats 1000000 in
theorem specCalOk (a : Option Addr) (len cap : Nat) (rs : List Rul) (w : World) (hr : IsRuls w a len cap rs) :
    Calls Tryz.prog 42 #[.slice a len cap] w fun e w' => e = .returned (.bool (calOk rs)) ∧ Below w.heap.size w w' := by
  obtain ⟨hz, hm⟩ := IsRecs.len hr
  unfold maxLen at hm
  have HR : Hid (IsRuls w a len cap rs) := hr
  clear hr
  have HI : Hid (∀ n lo hi w, Calls Tryz.prog 43 #[.int .i64 n, .int .i64 lo, .int .i64 hi] w fun x w' => x = .returned (.bool (decide (lo ≤ n ∧ n ≤ hi))) ∧ w' = w) := l41In
  go_enter Tryz.func42, Tryz.ntmps42
  go_wp2
  go_loopw [3] (fun i wr => ∃ q : Nat, i = .int .i64 q ∧ q ≤ len ∧ (∀ i (hi : i < rs.length), i < q → ruleOk rs[i] = true) ∧ Below w.heap.size w wr) (fun i _ => len - (intOf i).toNat)
  case atStart => exact ⟨0, rfl, Nat.zero_le _, fun i _ h => by omega, Below.refl _ _⟩
  case round =>
    obtain ⟨q, rfl, hq, hok, hb⟩ := hrel
    by_cases hlt : q < len
    · obtain ⟨b, off, rfl, h1, hbl, a1, l1, k1, c0, c1, c2, c3, c4, hrow1, _⟩ := IsRuls.at (IsRuls.below HR.out hb) (i := q) (by omega)
      have HE := l41RuleOk rs[q] a1 l1 k1 wr hrow1
      by_cases hy : ruleOk rs[q] = true
      · have HOK : Hid (∀ i (hi : i < rs.length), i < q + 1 → ruleOk rs[i] = true) := fun i hi hiq => by
          by_cases e : i = q
          · subst e; exact hy
          · exact hok i hi (by omega)
        rw [hy] at HE
        have HE : Hid _ := HE
        clear hok hy
        go_wp2_with fail
        refine Calls.mono HE.out ?_
        rintro e w1 ⟨rfl, hw1⟩
        go_wp2_with fail
        go_roundw
        case rel => exact ⟨q + 1, by go_num, by omega, HOK.out, bcall hb hb.size hw1⟩
        case measure => simp [intOf]; omega
      · have hy : ruleOk rs[q] = false := by simpa using hy
        have HF : Hid (calOk rs = false) := calOk_no (by omega) hy
        rw [hy] at HE
        have HE : Hid _ := HE
        clear hok hy
        go_wp2_with fail
        refine Calls.mono HE.out ?_
        rintro e w1 ⟨rfl, hw1⟩
        go_wp2_with fail
        go_ret
        exact ⟨ret_bool HF.out.symm, bcall hb hb.size hw1⟩
    · have hf := calOk_all fun i hi => hok i hi (by omega)
      rw [hz] at hf
      have HF : Hid (calOk rs = decide ((1 : Int) ≤ (len : Int) ∧ (len : Int) ≤ 4)) := hf
      clear hok hf
      go_wp2_with (go_at_call 43; refine (HI.out _ _ _ _).mono ?_; rintro e w1 ⟨rfl, rfl⟩)
      go_ret
      refine ⟨?_, hb⟩
      rw [HF.out]
      simp

end Go.Proofs.YtghocdiddolinaaGreatDoor

namespace Go.Proofs.YtghocdiddolinaaGreatDoor
set_option linter.unusedVariables false
set_option linter.unusedSimpArgs false
open Go.RowKit Go

def butHas (l : List Int) (t : Int) : Bool := decide (t ∈ l)
theorem butHas_yes {l : List Int} {k : Nat} (hk : k < l.length) {t : Int} (h : l.getD k 0 = t) : butHas l t = true := by
  rw [getD_at l k hk] at h; unfold butHas; rw [decide_eq_true_eq, ← h]; exact List.getElem_mem hk
theorem butHas_no {l : List Int} {t : Int} (h : ∀ i, i < l.length → l.getD i 0 ≠ t) : butHas l t = false := by
  unfold butHas; rw [decide_eq_false_iff_not]
  intro hm
  obtain ⟨i, hi, e⟩ := List.mem_iff_getElem.1 hm
  exact h i hi (by rw [getD_at l i hi]; exact e)

set_option maxHeartbeats 1000000 in
theorem l41But (r : Rul) (a : Option Addr) (len cap : Nat) (t : Int) (w : World) (hr : IsRow .i64 w a len cap r.but) :
    Calls Tryz.prog 65 #[.agg #[.int .i64 r.ev, .int .i64 r.at_, .int .i64 r.fr, .int .i64 r.to_, .slice a len cap], .int .i64 t] w fun x w' => x = .returned (.bool (butHas r.but t)) ∧ Below w.heap.size w w' := by
  obtain ⟨hz, hm⟩ := hr.len
  unfold maxLen at hm
  have HR : Hid (IsRow .i64 w a len cap r.but) := hr
  clear hr
  go_enter Tryz.func65, Tryz.ntmps65
  go_wp2
  go_loop [5] (fun i => ∃ k : Nat, k ≤ len ∧ i = .int .i64 k ∧ ∀ i, i < k → r.but.getD i 0 ≠ t) (fun i => len - (intOf i).toNat)
  case atStart => exact ⟨0, Nat.zero_le _, rfl, fun i h => by omega⟩
  case round =>
    obtain ⟨k, hk, rfl, hn⟩ := hrel
    have HN : Hid (∀ i, i < k → r.but.getD i 0 ≠ t) := hn
    clear hn
    by_cases hlt : k < len
    · obtain ⟨b, off, rfl, h1, h2, hc⟩ := IsRow.at HR.out hlt
      by_cases he : r.but.getD k 0 = t
      · have HF : Hid (butHas r.but t = true) := butHas_yes (by omega) he
        rw [he] at hc
        go_wp2
        go_ret
        exact ⟨ret_bool HF.out.symm, (Below.refl _ _).alloc (Nat.le_refl _) _⟩
      · have HN1 : Hid (∀ i, i < k + 1 → r.but.getD i 0 ≠ t) := fun i hi => by
          by_cases e : i = k
          · subst e; exact he
          · exact HN.out i (by omega)
        generalize r.but.getD k 0 = z at hc he
        have hd : (z == t) = false := by simpa using he
        go_wp2
        go_round
        case rel => exact ⟨k + 1, by omega, by go_num, HN1.out⟩
        case measure => simp [intOf]; omega
    · have HF : Hid (butHas r.but t = false) := butHas_no fun i hi => HN.out i (by omega)
      go_wp2
      go_ret
      exact ⟨ret_bool HF.out.symm, (Below.refl _ _).alloc (Nat.le_refl _) _⟩
end Go.Proofs.YtghocdiddolinaaGreatDoor
