/- Comparing plans: alike when they read alike. -/
import Derived.Test.YtghocdiddolinaaGreatDoorJ3
import Derived.Test.YtghocdiddolinaaGreatDoorJ45
namespace Go.Proofs.YtghocdiddolinaaGreatDoor
set_option linter.unusedVariables false
set_option linter.unusedSimpArgs false
open Go.RowKit Go

set_option maxHeartbeats 400000 in
theorem eqPlanTold (tk wh : Int) (w : World) :
    Calls Tryz.prog 33 #[.agg #[.int .i64 tk, .int .i64 wh], .agg #[.int .i64 tk, .int .i64 wh]] w fun e w' => e = .returned (.bool true) ∧ Below w.heap.size w w' := by
  go_enter Tryz.func33, Tryz.ntmps33
  go_wp2_with fail
  go_ret
  exact ⟨rfl, ((Below.refl _ _).alloc (Nat.le_refl _) _).alloc (by simp) _⟩

set_option maxHeartbeats 400000 in
theorem eqPlanToldS (a b : Option Addr) (len cap cap2 : Nat) (ts : List Tld) (w : World) (hr : IsTlds w a len cap ts) (hr2 : IsTlds w b len cap2 ts) :
    Calls Tryz.prog 10 #[.slice a len cap, .slice b len cap2] w fun e w' => e = .returned (.bool true) ∧ Below w.heap.size w w' := by
  obtain ⟨hz, hm⟩ := IsRecs.len hr
  unfold maxLen at hm
  have HR : Hid (IsTlds w a len cap ts) := hr
  have HR2 : Hid (IsTlds w b len cap2 ts) := hr2
  clear hr hr2
  go_enter Tryz.func10, Tryz.ntmps10
  go_wp2
  go_loopw [5] (fun i wr => ∃ q : Nat, i = .int .i64 q ∧ q ≤ len ∧ Below w.heap.size w wr) (fun i _ => len - (intOf i).toNat)
  case atStart => exact ⟨0, rfl, Nat.zero_le _, Below.refl _ _⟩
  case round =>
    obtain ⟨q, rfl, hq, hb⟩ := hrel
    by_cases hlt : q < len
    · obtain ⟨b1, off1, rfl, h1, hbl1, c0, c1, _⟩ := IsTlds.at (IsTlds.below HR.out hb) (i := q) (by omega)
      obtain ⟨b2, off2, rfl, h2, hbl2, d0, d1, _⟩ := IsTlds.at (IsTlds.below HR2.out hb) (i := q) (by omega)
      have HE : Hid (∀ w', Calls Tryz.prog 33 #[.agg #[.int .i64 ts[q].tk, .int .i64 ts[q].wh], .agg #[.int .i64 ts[q].tk, .int .i64 ts[q].wh]] w' fun e w'' => e = .returned (.bool true) ∧ Below w'.heap.size w' w'') := fun w' => eqPlanTold _ _ w'
      go_wp2_with fail
      go_region_with (go_at_call 33; refine (HE.out _).mono ?_; rintro e w1 ⟨rfl, hw1⟩)
      all_goals
        go_wp2_with fail
        go_roundw
        case rel => exact ⟨q + 1, by go_num, by omega, bcall hb.drew hb.size hw1⟩
        case measure => simp [intOf]; omega
    · go_wp2_with fail
      go_ret
      exact ⟨rfl, hb⟩

set_option maxHeartbeats 800000 in
theorem eqPlan (ra : Option Addr) (rl rc : Nat) (ga : Option Addr) (gl gc : Nat) (wa : Option Addr) (wl wc : Nat) (ta : Option Addr) (tl tc : Nat) (ra' : Option Addr) (rc' : Nat) (ga' : Option Addr) (gc' : Nat) (wa' : Option Addr) (wc' : Nat) (ta' : Option Addr) (tc' : Nat) (p : Pla) (w : World)
    (hp : IsPla w ra rl rc ga gl gc wa wl wc ta tl tc p) (hp2 : IsPla w ra' rl rc' ga' gl gc' wa' wl wc' ta' tl tc' p) :
    Calls Tryz.prog 9 #[.agg #[.slice ra rl rc, .int .i64 p.pol, .int .i64 p.win, .int .i64 p.last, .slice ga gl gc, .slice wa wl wc, .slice ta tl tc], .agg #[.slice ra' rl rc', .int .i64 p.pol, .int .i64 p.win, .int .i64 p.last, .slice ga' gl gc', .slice wa' wl wc', .slice ta' tl tc']] w fun e w' => e = .returned (.bool true) ∧ Below w.heap.size w w' := by
  have HP : Hid _ := hp
  have HP2 : Hid _ := hp2
  clear hp hp2
  have Q1 : Hid (∀ w', Below w.heap.size w w' → Calls Tryz.prog 31 #[.slice ra rl rc, .slice ra' rl rc'] w' fun e w'' => e = .returned (.bool true) ∧ Below w'.heap.size w' w'') := fun w' hb => eqCalRuleS _ _ _ _ _ p.rs w' (IsPla.below HP.out hb).1 (IsPla.below HP2.out hb).1
  have Q2 : Hid (∀ w', Below w.heap.size w w' → Calls Tryz.prog 32 #[.slice ga gl gc, .slice ga' gl gc'] w' fun e w'' => e = .returned (.bool true) ∧ Below w'.heap.size w' w'') := fun w' hb => eqIntS _ _ _ _ _ p.goes w' (IsPla.below HP.out hb).2.1 (IsPla.below HP2.out hb).2.1
  have Q3 : Hid (∀ w', Below w.heap.size w w' → Calls Tryz.prog 32 #[.slice wa wl wc, .slice wa' wl wc'] w' fun e w'' => e = .returned (.bool true) ∧ Below w'.heap.size w' w'') := fun w' hb => eqIntS _ _ _ _ _ p.waits w' (IsPla.below HP.out hb).2.2.1 (IsPla.below HP2.out hb).2.2.1
  have Q4 : Hid (∀ w', Below w.heap.size w w' → Calls Tryz.prog 10 #[.slice ta tl tc, .slice ta' tl tc'] w' fun e w'' => e = .returned (.bool true) ∧ Below w'.heap.size w' w'') := fun w' hb => eqPlanToldS _ _ _ _ _ p.told w' (IsPla.below HP.out hb).2.2.2 (IsPla.below HP2.out hb).2.2.2
  clear HP HP2
  go_enter Tryz.func9, Tryz.ntmps9
  go_wp2_with fail
  refine (Q1.out _ (((Below.refl _ _).alloc (Nat.le_refl _) _).alloc (by simp) _)).mono ?_
  rintro e w1 ⟨rfl, hb1⟩
  have hB : Below (w.heap.size + 1 + 1) ((w.alloc (.cells #[.slice ra rl rc, .int .i64 p.pol, .int .i64 p.win, .int .i64 p.last, .slice ga gl gc, .slice wa wl wc, .slice ta tl tc] 31)).alloc (.cells #[.slice ra' rl rc', .int .i64 p.pol, .int .i64 p.win, .int .i64 p.last, .slice ga' gl gc', .slice wa' wl wc', .slice ta' tl tc'] 31)) w1 := by simpa using hb1
  have hB2 : Below (w.heap.size + 1 + 1) ((w.alloc (.cells #[.slice ra rl rc, .int .i64 p.pol, .int .i64 p.win, .int .i64 p.last, .slice ga gl gc, .slice wa wl wc, .slice ta tl tc] 31)).alloc (.cells #[.slice ra' rl rc', .int .i64 p.pol, .int .i64 p.win, .int .i64 p.last, .slice ga' gl gc', .slice wa' wl wc', .slice ta' tl tc'] 31)) w1.drew := hB.drew
  clear hb1
  obtain ⟨f, g, hW⟩ := boxAt2 hB
  have f1 := f 1 _ rfl; have f2 := f 2 _ rfl; have f3 := f 3 _ rfl; have f4 := f 4 _ rfl
  have g1 := g 1 _ rfl; have g2 := g 2 _ rfl; have g3 := g 3 _ rfl; have g4 := g 4 _ rfl
  have HB : Hid _ := hB
  have HW : Hid _ := hW
  clear f g hB hB2 hW
  go_wp2_with fail
  refine (Q2.out _ HW.out).mono ?_
  rintro e w2 ⟨rfl, hb2⟩
  have hB : Below (w.heap.size + 1 + 1) ((w.alloc (.cells #[.slice ra rl rc, .int .i64 p.pol, .int .i64 p.win, .int .i64 p.last, .slice ga gl gc, .slice wa wl wc, .slice ta tl tc] 31)).alloc (.cells #[.slice ra' rl rc', .int .i64 p.pol, .int .i64 p.win, .int .i64 p.last, .slice ga' gl gc', .slice wa' wl wc', .slice ta' tl tc'] 31)) w2 := bcall HB.out (by have := HB.out.size; simpa using this) hb2
  clear hb2 f1 f2 f3 f4 g1 g2 g3 g4 HB HW
  obtain ⟨f, g, hW⟩ := boxAt2 hB
  have f5 := f 5 _ rfl; have f6 := f 6 _ rfl
  have g5 := g 5 _ rfl; have g6 := g 6 _ rfl
  have HB : Hid _ := hB
  have HW : Hid _ := hW
  clear f g hB hW
  go_wp2_with fail
  refine (Q3.out _ HW.out).mono ?_
  rintro e w3 ⟨rfl, hb3⟩
  have hB : Below (w.heap.size + 1 + 1) ((w.alloc (.cells #[.slice ra rl rc, .int .i64 p.pol, .int .i64 p.win, .int .i64 p.last, .slice ga gl gc, .slice wa wl wc, .slice ta tl tc] 31)).alloc (.cells #[.slice ra' rl rc', .int .i64 p.pol, .int .i64 p.win, .int .i64 p.last, .slice ga' gl gc', .slice wa' wl wc', .slice ta' tl tc'] 31)) w3 := bcall HB.out (by have := HB.out.size; simpa using this) hb3
  clear hb3 f5 f6 g5 g6 HB HW
  obtain ⟨f, g, hW⟩ := boxAt2 hB
  have f6 := f 6 _ rfl
  have g6 := g 6 _ rfl
  have HW : Hid _ := hW
  clear f g hB hW
  go_wp2_with fail
  refine (Q4.out _ HW.out).mono ?_
  rintro e w4 ⟨rfl, hb4⟩
  have HB4 : Hid _ := bcall HW.out HW.out.size hb4
  clear hb4 HW f6 g6
  go_wp2_with fail
  go_ret
  exact ⟨rfl, HB4.out⟩
end Go.Proofs.YtghocdiddolinaaGreatDoor
