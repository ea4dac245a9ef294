/- The model's ticks of rules, and which are due. -/
import Derived.Test.YtghocdiddolinaaGreatDoorJ20
namespace Go.Proofs.YtghocdiddolinaaGreatDoor
set_option linter.unusedVariables false
set_option linter.unusedSimpArgs false
open Go.RowKit Go

/-- A tick of a rule. -/
def OfRule (r : Rul) (t : Int) : Prop := (r.fr ≤ t ∧ t ≤ r.to_) ∧ t % r.ev = r.at_ ∧ t ∉ r.but
instance (r : Rul) (t : Int) : Decidable (OfRule r t) := by unfold OfRule; infer_instance
def ofRule (r : Rul) (t : Int) : Bool := decide (OfRule r t)

set_option maxRecDepth 4000 in
set_option maxHeartbeats 2000000 in
theorem l41Of (r : Rul) (a : Option Addr) (len cap : Nat) (t : Int) (w : World) (hr : IsRow .i64 w a len cap r.but) (hok : RuleOk r) :
    Calls Tryz.prog 64 #[.agg #[.int .i64 r.ev, .int .i64 r.at_, .int .i64 r.fr, .int .i64 r.to_, .slice a len cap], .int .i64 t] w fun x w' => x = .returned (.bool (ofRule r t)) ∧ Below w.heap.size w w' := by
  have HBT : Hid (∀ w, IsRow .i64 w a len cap r.but → Calls Tryz.prog 65 #[.agg #[.int .i64 r.ev, .int .i64 r.at_, .int .i64 r.fr, .int .i64 r.to_, .slice a len cap], .int .i64 t] w fun x w' => x = .returned (.bool (butHas r.but t)) ∧ Below w.heap.size w w') := fun w h => l41But r a len cap t w h
  have HR : Hid (IsRow .i64 w a len cap r.but) := hr
  clear hr
  have HI := fun w => l41In t r.fr r.to_ w
  obtain ⟨⟨e1, e2⟩, ⟨a1, a2⟩, ⟨f1, f2⟩, ⟨t1, t2⟩, _, _⟩ := hok
  obtain ⟨ev, at_, fr, to_, but⟩ := r
  dsimp only at *
  by_cases p1 : fr ≤ t ∧ t ≤ to_
  · rw [decide_eq_true p1] at HI
    have HI : Hid _ := HI
    have ht0 : 0 ≤ t := by omega
    by_cases p2 : t % ev = at_
    · by_cases p3 : butHas but t = true
      · rw [p3] at HBT
        have HF : Hid (ofRule ⟨ev, at_, fr, to_, but⟩ t = false) := decide_eq_false fun h => h.2.2 (by simpa [butHas] using p3)
        go_enter Tryz.func64, Tryz.ntmps64
        go_wp2_with fail
        go_region_with (first
          | (go_at_call 43; refine (HI.out _).mono ?_; rintro e w1 ⟨rfl, rfl⟩)
          | (go_at_call 65; refine (HBT.out _ ((HR.out.alloc _).below (Below.refl _ _).drew)).mono ?_; rintro e w2 ⟨rfl, hw2⟩))
        all_goals
          go_wp2_with fail
          go_ret
          exact ⟨ret_bool HF.out.symm, bcall ((Below.refl _ _).alloc (Nat.le_refl _) _).drew (by simp) hw2⟩
      · have p3 : butHas but t = false := by simpa using p3
        rw [p3] at HBT
        have HF : Hid (ofRule ⟨ev, at_, fr, to_, but⟩ t = true) := decide_eq_true ⟨p1, p2, by simpa [butHas] using p3⟩
        go_enter Tryz.func64, Tryz.ntmps64
        go_wp2_with fail
        go_region_with (first
          | (go_at_call 43; refine (HI.out _).mono ?_; rintro e w1 ⟨rfl, rfl⟩)
          | (go_at_call 65; refine (HBT.out _ ((HR.out.alloc _).below (Below.refl _ _).drew)).mono ?_; rintro e w2 ⟨rfl, hw2⟩))
        all_goals
          go_wp2_with fail
          go_ret
          exact ⟨ret_bool HF.out.symm, bcall ((Below.refl _ _).alloc (Nat.le_refl _) _).drew (by simp) hw2⟩
    · have HF : Hid (ofRule ⟨ev, at_, fr, to_, but⟩ t = false) := decide_eq_false fun h => p2 h.2.1
      have hm : t.tmod ev = t % ev := Int.tmod_eq_emod_of_nonneg ht0
      have hq : (t.tmod ev == at_) = false := by rw [hm]; simpa using p2
      have hq2 : (t % ev == at_) = false := by simpa using p2
      have hv : ev ≠ 0 := by omega
      clear hm
      go_enter Tryz.func64, Tryz.ntmps64
      go_wp2_with fail
      go_quiet ((go_at_call 43; exact Calls.quiet_of_same (HI.out _)))
      go_wp2_with fail
      go_ret
      exact ⟨ret_bool HF.out.symm, below_drewN ((Below.refl _ _).alloc (Nat.le_refl _) _) _⟩
  · rw [decide_eq_false p1] at HI
    have HI : Hid _ := HI
    have HF : Hid (ofRule ⟨ev, at_, fr, to_, but⟩ t = false) := decide_eq_false fun h => p1 h.1
    go_enter Tryz.func64, Tryz.ntmps64
    go_wp2_with fail
    go_quiet ((go_at_call 43; exact Calls.quiet_of_same (HI.out _)))
    go_wp2_with fail
    go_ret
    exact ⟨ret_bool HF.out.symm, below_drewN ((Below.refl _ _).alloc (Nat.le_refl _) _) _⟩
end Go.Proofs.YtghocdiddolinaaGreatDoor
