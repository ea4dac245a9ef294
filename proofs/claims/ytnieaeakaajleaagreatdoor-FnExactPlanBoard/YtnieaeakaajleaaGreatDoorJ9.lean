/- The text of a rule. -/
import Derived.Test.YtnieaeakaajleaaGreatDoorJ4
import Derived.Test.YtnieaeakaajleaaGreatDoorJ8
import Derived.Test.YtnieaeakaajleaaGreatDoorJ2
import Derived.BigQuiet
import Derived.Deep.QuietTactic
import Derived.Test.YtnieaeakaajleaaGreatDoorJ3
namespace Go.Proofs.YtnieaeakaajleaaGreatDoor
set_option linter.unusedVariables false
set_option linter.unusedSimpArgs false
open Go.RowKit Go

set_option maxHeartbeats 400000 in
theorem eqPlanTold (tk wh : Int) (w : World) :
    Calls Tryz.prog 36 #[.agg #[.int .i64 tk, .int .i64 wh], .agg #[.int .i64 tk, .int .i64 wh]] w fun e w' => e = .returned (.bool true) ∧ Below w.heap.size w w' := by
  go_enter Tryz.func36, Tryz.ntmps36
  go_wp2_with fail
  go_ret
  exact ⟨rfl, ((Below.refl _ _).alloc (Nat.le_refl _) _).alloc (by simp) _⟩

set_option maxHeartbeats 400000 in
theorem eqPlanToldS (a b : Option Addr) (len cap cap2 : Nat) (ts : List Tld) (w : World) (hr : IsTlds w a len cap ts) (hr2 : IsTlds w b len cap2 ts) :
    Calls Tryz.prog 11 #[.slice a len cap, .slice b len cap2] w fun e w' => e = .returned (.bool true) ∧ Below w.heap.size w w' := by
  obtain ⟨hz, hm⟩ := IsRecs.len hr
  unfold maxLen at hm
  have HR : Hid (IsTlds w a len cap ts) := hr
  have HR2 : Hid (IsTlds w b len cap2 ts) := hr2
  clear hr hr2
  go_enter Tryz.func11, Tryz.ntmps11
  go_wp2
  go_loopw [5] (fun i wr => ∃ q : Nat, i = .int .i64 q ∧ q ≤ len ∧ Below w.heap.size w wr) (fun i _ => len - (intOf i).toNat)
  case atStart => exact ⟨0, rfl, Nat.zero_le _, Below.refl _ _⟩
  case round =>
    obtain ⟨q, rfl, hq, hb⟩ := hrel
    by_cases hlt : q < len
    · obtain ⟨b1, off1, rfl, h1, hbl1, c0, c1, _⟩ := IsTlds.at (IsTlds.below HR.out hb) (i := q) (by omega)
      obtain ⟨b2, off2, rfl, h2, hbl2, d0, d1, _⟩ := IsTlds.at (IsTlds.below HR2.out hb) (i := q) (by omega)
      have HE : Hid (∀ w', Calls Tryz.prog 36 #[.agg #[.int .i64 ts[q].tk, .int .i64 ts[q].wh], .agg #[.int .i64 ts[q].tk, .int .i64 ts[q].wh]] w' fun e w'' => e = .returned (.bool true) ∧ Below w'.heap.size w' w'') := fun w' => eqPlanTold _ _ w'
      go_wp2_with fail
      go_region_with (go_at_call 36; refine (HE.out _).mono ?_; rintro e w1 ⟨rfl, hw1⟩)
      all_goals
        go_wp2_with fail
        go_roundw
        case rel => exact ⟨q + 1, by go_num, by omega, bcall hb.drew hb.size hw1⟩
        case measure => simp [intOf]; omega
    · go_wp2_with fail
      go_ret
      exact ⟨rfl, hb⟩

set_option maxHeartbeats 800000 in
theorem eqPlan (ra : Option Addr) (rl rc : Nat) (ga : Option Addr) (gl gc : Nat) (wa : Option Addr) (wl wc : Nat) (ta : Option Addr) (tl tc : Nat) (ra' : Option Addr) (rc' : Nat) (ga' : Option Addr) (gc' : Nat) (wa' : Option Addr) (wc' : Nat) (ta' : Option Addr) (tc' : Nat) (p : Pla) (w : World)
    (hp : IsPla w ra rl rc ga gl gc wa wl wc ta tl tc p) (hp2 : IsPla w ra' rl rc' ga' gl gc' wa' wl wc' ta' tl tc' p) :
    Calls Tryz.prog 10 #[.agg #[.slice ra rl rc, .int .i64 p.pol, .int .i64 p.win, .int .i64 p.last, .slice ga gl gc, .slice wa wl wc, .slice ta tl tc], .agg #[.slice ra' rl rc', .int .i64 p.pol, .int .i64 p.win, .int .i64 p.last, .slice ga' gl gc', .slice wa' wl wc', .slice ta' tl tc']] w fun e w' => e = .returned (.bool true) ∧ Below w.heap.size w w' := by
  have HP : Hid _ := hp
  have HP2 : Hid _ := hp2
  clear hp hp2
  have Q1 : Hid (∀ w', Below w.heap.size w w' → Calls Tryz.prog 34 #[.slice ra rl rc, .slice ra' rl rc'] w' fun e w'' => e = .returned (.bool true) ∧ Below w'.heap.size w' w'') := fun w' hb => eqCalRuleS _ _ _ _ _ p.rs w' (IsPla.below HP.out hb).1 (IsPla.below HP2.out hb).1
  have Q2 : Hid (∀ w', Below w.heap.size w w' → Calls Tryz.prog 35 #[.slice ga gl gc, .slice ga' gl gc'] w' fun e w'' => e = .returned (.bool true) ∧ Below w'.heap.size w' w'') := fun w' hb => eqIntS _ _ _ _ _ p.goes w' (IsPla.below HP.out hb).2.1 (IsPla.below HP2.out hb).2.1
  have Q3 : Hid (∀ w', Below w.heap.size w w' → Calls Tryz.prog 35 #[.slice wa wl wc, .slice wa' wl wc'] w' fun e w'' => e = .returned (.bool true) ∧ Below w'.heap.size w' w'') := fun w' hb => eqIntS _ _ _ _ _ p.waits w' (IsPla.below HP.out hb).2.2.1 (IsPla.below HP2.out hb).2.2.1
  have Q4 : Hid (∀ w', Below w.heap.size w w' → Calls Tryz.prog 11 #[.slice ta tl tc, .slice ta' tl tc'] w' fun e w'' => e = .returned (.bool true) ∧ Below w'.heap.size w' w'') := fun w' hb => eqPlanToldS _ _ _ _ _ p.told w' (IsPla.below HP.out hb).2.2.2 (IsPla.below HP2.out hb).2.2.2
  clear HP HP2
  go_enter Tryz.func10, Tryz.ntmps10
  go_wp2_with fail
  refine (Q1.out _ (((Below.refl _ _).alloc (Nat.le_refl _) _).alloc (by simp) _)).mono ?_
  rintro e w1 ⟨rfl, hb1⟩
  have hB : Below (w.heap.size + 1 + 1) ((w.alloc (.cells #[.slice ra rl rc, .int .i64 p.pol, .int .i64 p.win, .int .i64 p.last, .slice ga gl gc, .slice wa wl wc, .slice ta tl tc] 31)).alloc (.cells #[.slice ra' rl rc', .int .i64 p.pol, .int .i64 p.win, .int .i64 p.last, .slice ga' gl gc', .slice wa' wl wc', .slice ta' tl tc'] 31)) w1 := by simpa using hb1
  have hB2 : Below (w.heap.size + 1 + 1) ((w.alloc (.cells #[.slice ra rl rc, .int .i64 p.pol, .int .i64 p.win, .int .i64 p.last, .slice ga gl gc, .slice wa wl wc, .slice ta tl tc] 31)).alloc (.cells #[.slice ra' rl rc', .int .i64 p.pol, .int .i64 p.win, .int .i64 p.last, .slice ga' gl gc', .slice wa' wl wc', .slice ta' tl tc'] 31)) w1.drew := hB.drew
  clear hb1
  obtain ⟨f, g, hW⟩ := boxAt2 hB
  have f1 := f 1 _ rfl; have f2 := f 2 _ rfl; have f3 := f 3 _ rfl; have f4 := f 4 _ rfl
  have g1 := g 1 _ rfl; have g2 := g 2 _ rfl; have g3 := g 3 _ rfl; have g4 := g 4 _ rfl
  have HB : Hid _ := hB
  have HW : Hid _ := hW
  clear f g hB hB2 hW
  go_wp2_with fail
  refine (Q2.out _ HW.out).mono ?_
  rintro e w2 ⟨rfl, hb2⟩
  have hB : Below (w.heap.size + 1 + 1) ((w.alloc (.cells #[.slice ra rl rc, .int .i64 p.pol, .int .i64 p.win, .int .i64 p.last, .slice ga gl gc, .slice wa wl wc, .slice ta tl tc] 31)).alloc (.cells #[.slice ra' rl rc', .int .i64 p.pol, .int .i64 p.win, .int .i64 p.last, .slice ga' gl gc', .slice wa' wl wc', .slice ta' tl tc'] 31)) w2 := bcall HB.out (by have := HB.out.size; simpa using this) hb2
  clear hb2 f1 f2 f3 f4 g1 g2 g3 g4 HB HW
  obtain ⟨f, g, hW⟩ := boxAt2 hB
  have f5 := f 5 _ rfl; have f6 := f 6 _ rfl
  have g5 := g 5 _ rfl; have g6 := g 6 _ rfl
  have HB : Hid _ := hB
  have HW : Hid _ := hW
  clear f g hB hW
  go_wp2_with fail
  refine (Q3.out _ HW.out).mono ?_
  rintro e w3 ⟨rfl, hb3⟩
  have hB : Below (w.heap.size + 1 + 1) ((w.alloc (.cells #[.slice ra rl rc, .int .i64 p.pol, .int .i64 p.win, .int .i64 p.last, .slice ga gl gc, .slice wa wl wc, .slice ta tl tc] 31)).alloc (.cells #[.slice ra' rl rc', .int .i64 p.pol, .int .i64 p.win, .int .i64 p.last, .slice ga' gl gc', .slice wa' wl wc', .slice ta' tl tc'] 31)) w3 := bcall HB.out (by have := HB.out.size; simpa using this) hb3
  clear hb3 f5 f6 g5 g6 HB HW
  obtain ⟨f, g, hW⟩ := boxAt2 hB
  have f6 := f 6 _ rfl
  have g6 := g 6 _ rfl
  have HW : Hid _ := hW
  clear f g hB hW
  go_wp2_with fail
  refine (Q4.out _ HW.out).mono ?_
  rintro e w4 ⟨rfl, hb4⟩
  have HB4 : Hid _ := bcall HW.out HW.out.size hb4
  clear hb4 HW f6 g6
  go_wp2_with fail
  go_ret
  exact ⟨rfl, HB4.out⟩
end Go.Proofs.YtnieaeakaajleaaGreatDoor

namespace Go.Proofs.YtnieaeakaajleaaGreatDoor
set_option linter.unusedVariables false
set_option linter.unusedSimpArgs false
open Go.RowKit Go

set_option maxHeartbeats 400000 in
theorem l41In (n lo hi : Int) (w : World) :
    Calls Tryz.prog 53 #[.int .i64 n, .int .i64 lo, .int .i64 hi] w fun e w' => e = .returned (.bool (decide (lo ≤ n ∧ n ≤ hi))) ∧ w' = w := by
  by_cases h1 : lo ≤ n
  · by_cases h2 : n ≤ hi
    · rw [decide_eq_true ⟨h1, h2⟩]
      go_enter Tryz.func53, Tryz.ntmps53
      go_wp2
      go_ret
      exact ⟨by simp [h1, h2], rfl⟩
    · rw [decide_eq_false (fun h => h2 h.2)]
      go_enter Tryz.func53, Tryz.ntmps53
      go_wp2
      go_ret
      exact ⟨by first | (simp; done) | (simp; omega), rfl⟩
  · rw [decide_eq_false (fun h => h1 h.1)]
    go_enter Tryz.func53, Tryz.ntmps53
    go_wp2
    go_ret
    exact ⟨by first | (simp; done) | (simp; omega), rfl⟩

theorem quiet_again {P : Program} {f : FuncId} {args : Array Value} {w : World} {m n : Nat} {v : Value} (h : Calls P f args (w.drewN (m + n)) fun e w' => e = .returned v ∧ w' = w.drewN (m + n)) :
    Calls P f args (w.drewN (m + n)) fun e w'' => e = .returned v ∧ ∃ q, w'' = w.drewN (m + q) := h.mono fun _ _ ⟨he, hm⟩ => ⟨he, n, hm⟩
/-- A tick that is left out, at its place. -/
def butAt (l : List Int) (i : Nat) : Prop := 0 ≤ l.getD i 0 ∧ l.getD i 0 ≤ 100000 ∧ (0 < i → l.getD (i - 1) 0 < l.getD i 0)
def RuleOk (r : Rul) : Prop := (1 ≤ r.ev ∧ r.ev ≤ 1000) ∧ (0 ≤ r.at_ ∧ r.at_ ≤ r.ev - 1) ∧ (0 ≤ r.fr ∧ r.fr ≤ 100000) ∧ (r.fr ≤ r.to_ ∧ r.to_ ≤ 100000) ∧ r.but.length ≤ 8 ∧ ∀ i, i < r.but.length → butAt r.but i
instance (l : List Int) (i : Nat) : Decidable (butAt l i) := by unfold butAt; infer_instance
instance (r : Rul) : Decidable (RuleOk r) := by unfold RuleOk; infer_instance
def ruleOk (r : Rul) : Bool := decide (RuleOk r)
theorem ruleOk_no {r : Rul} (h : ¬ RuleOk r) : ruleOk r = false := by unfold ruleOk; exact decide_eq_false h
theorem ruleOk_yes {r : Rul} (h : RuleOk r) : ruleOk r = true := by unfold ruleOk; exact decide_eq_true h

set_option maxRecDepth 4000 in
set_option maxHeartbeats 2000000 in
theorem l41RuleOk (r : Rul) (a : Option Addr) (len cap : Nat) (w : World) (hr : IsRow .i64 w a len cap r.but) :
    Calls Tryz.prog 84 #[.agg #[.int .i64 r.ev, .int .i64 r.at_, .int .i64 r.fr, .int .i64 r.to_, .slice a len cap]] w fun x w' => x = .returned (.bool (ruleOk r)) ∧ Below w.heap.size w w' := by
  obtain ⟨hz, hm⟩ := hr.len
  unfold maxLen at hm
  have HR : Hid (IsRow .i64 w a len cap r.but) := hr
  clear hr
  have HI : Hid (∀ n lo hi w, Calls Tryz.prog 53 #[.int .i64 n, .int .i64 lo, .int .i64 hi] w fun x w' => x = .returned (.bool (decide (lo ≤ n ∧ n ≤ hi))) ∧ w' = w) := l41In
  have HT : Hid (∀ n lo hi w, lo ≤ n ∧ n ≤ hi → Calls Tryz.prog 53 #[.int .i64 n, .int .i64 lo, .int .i64 hi] w fun x w' => x = .returned (.bool true) ∧ w' = w) := fun n lo hi w h => by have := l41In n lo hi w; rwa [decide_eq_true h] at this
  have HN : Hid (∀ n lo hi w, ¬ (lo ≤ n ∧ n ≤ hi) → Calls Tryz.prog 53 #[.int .i64 n, .int .i64 lo, .int .i64 hi] w fun x w' => x = .returned (.bool false) ∧ w' = w) := fun n lo hi w h => by have := l41In n lo hi w; rwa [decide_eq_false h] at this
  obtain ⟨ev, at_, fr, to_, but⟩ := r
  dsimp only at *
  by_cases p1 : 1 ≤ ev ∧ ev ≤ 1000
  · by_cases p2 : 0 ≤ at_ ∧ at_ ≤ ev - 1
    · by_cases p3 : 0 ≤ fr ∧ fr ≤ 100000
      · by_cases p4 : fr ≤ to_ ∧ to_ ≤ 100000
        · by_cases p5 : len ≤ 8
          · go_enter Tryz.func84, Tryz.ntmps84
            go_wp2_with (go_at_call 53; refine (HT.out _ _ _ _ (by omega)).mono ?_; rintro e w' ⟨rfl, rfl⟩)
            go_loopw [3] (fun i wr => ∃ k m : Nat, k ≤ len ∧ i = .int .i64 k ∧ (∀ i, i < k → butAt but i) ∧ wr = (w.alloc (.cells #[.int .i64 ev, .int .i64 at_, .int .i64 fr, .int .i64 to_, .slice a len cap] 81)).drewN m) (fun i _ => len - (intOf i).toNat)
            case atStart => exact ⟨0, 0, Nat.zero_le _, rfl, fun i h => by omega, rfl⟩
            case round =>
              obtain ⟨k, m, hk, rfl, hb, rfl⟩ := hrel
              have HB : Hid (∀ i, i < k → butAt but i) := hb
              clear hb
              by_cases hlt : k < len
              · obtain ⟨b, off, rfl, h1, h2, hc⟩ := IsRow.at HR.out hlt
                have HBN : Hid (∀ m, Below w.heap.size w ((w.alloc (.cells #[.int .i64 ev, .int .i64 at_, .int .i64 fr, .int .i64 to_, .slice (some ⟨b, off, none⟩) len cap] 81)).drewN m)) := fun m => below_drewN ((Below.refl _ _).alloc (Nat.le_refl _) _) m
                by_cases hin : 0 ≤ but.getD k 0 ∧ but.getD k 0 ≤ 100000
                · have HIN : Hid (∀ w, Calls Tryz.prog 53 #[.int .i64 (but.getD k 0), .int .i64 0, .int .i64 100000] w fun x w' => x = .returned (.bool true) ∧ w' = w) := fun w => HT.out _ _ _ w hin
                  cases k with
                  | zero =>
                    have HB1 : Hid (∀ i, i < 0 + 1 → butAt but i) := fun i hi => by
                      have : i = 0 := by omega
                      subst this
                      exact ⟨hin.1, hin.2, fun h => by omega⟩
                    clear hin
                    generalize but.getD 0 0 = z at hc HIN
                    simp only [Nat.add_zero] at hc
                    go_wp2_with fail
                    go_quiet ((go_at_call 53; exact quiet_again (HIN.out _)))
                    go_wp2_with fail
                    go_roundw
                    case rel => exact ⟨0 + 1, _, by omega, by go_num, HB1.out, rfl⟩
                    case measure => simp [intOf]; omega
                  | succ j =>
                    obtain ⟨b', off', e', _, _, hcj⟩ := IsRow.at HR.out (i := j) (by omega)
                    cases e'
                    by_cases hlt2 : but.getD j 0 < but.getD (j + 1) 0
                    · have HB1 : Hid (∀ i, i < j + 1 + 1 → butAt but i) := fun i hi => by
                        by_cases e : i = j + 1
                        · subst e; exact ⟨hin.1, hin.2, fun _ => hlt2⟩
                        · exact HB.out i (by omega)
                      clear hin
                      generalize but.getD (j + 1) 0 = z at hc HIN hlt2
                      generalize but.getD j 0 = y at hcj hlt2
                      have hd : decide (z ≤ y) = false := decide_eq_false (by omega)
                      go_wp2_with fail
                      go_quiet ((go_at_call 53; exact quiet_again (HIN.out _)))
                      go_wp2_with fail
                      go_roundw
                      case rel => exact ⟨j + 1 + 1, _, by omega, by go_num, HB1.out, rfl⟩
                      case measure => simp [intOf]; omega
                    · have HF : Hid (ruleOk ⟨ev, at_, fr, to_, but⟩ = false) := ruleOk_no fun h => hlt2 ((h.2.2.2.2.2 (j + 1) (by dsimp only; omega)).2.2 (by omega))
                      clear hin
                      generalize but.getD (j + 1) 0 = z at hc HIN hlt2
                      generalize but.getD j 0 = y at hcj hlt2
                      have hd : z ≤ y := by omega
                      clear hlt2
                      go_wp2_with fail
                      go_quiet ((go_at_call 53; exact quiet_again (HIN.out _)))
                      go_wp2_with fail
                      go_ret
                      exact ⟨ret_bool HF.out.symm, by first | exact HBN.out _ | exact below_drewN (HBN.out _) _⟩
                · have HIN : Hid (∀ w, Calls Tryz.prog 53 #[.int .i64 (but.getD k 0), .int .i64 0, .int .i64 100000] w fun x w' => x = .returned (.bool false) ∧ w' = w) := fun w => HN.out _ _ _ w hin
                  have HF : Hid (ruleOk ⟨ev, at_, fr, to_, but⟩ = false) := ruleOk_no fun h => hin ⟨(h.2.2.2.2.2 k (by dsimp only; omega)).1, (h.2.2.2.2.2 k (by dsimp only; omega)).2.1⟩
                  clear hin
                  generalize but.getD k 0 = z at hc HIN
                  go_wp2_with fail
                  go_quiet ((go_at_call 53; exact quiet_again (HIN.out _)))
                  go_wp2_with fail
                  go_ret
                  exact ⟨ret_bool HF.out.symm, by first | exact HBN.out _ | exact below_drewN (HBN.out _) _⟩
              · have HF : Hid (ruleOk ⟨ev, at_, fr, to_, but⟩ = true) := ruleOk_yes ⟨p1, p2, p3, p4, by dsimp only; omega, fun i hi => HB.out i (by dsimp only at hi; omega)⟩
                go_wp2
                go_ret
                exact ⟨ret_bool HF.out.symm, below_drewN ((Below.refl _ _).alloc (Nat.le_refl _) _) _⟩
          · have HF : Hid (ruleOk ⟨ev, at_, fr, to_, but⟩ = false) := ruleOk_no fun h => p5 (by have := h.2.2.2.2.1; dsimp only at this; omega)
            go_enter Tryz.func84, Tryz.ntmps84
            go_wp2_with (go_at_call 53; refine (HT.out _ _ _ _ (by omega)).mono ?_; rintro e w' ⟨rfl, rfl⟩)
            go_ret
            exact ⟨ret_bool HF.out.symm, (Below.refl _ _).alloc (Nat.le_refl _) _⟩
        · have HF : Hid (ruleOk ⟨ev, at_, fr, to_, but⟩ = false) := ruleOk_no fun h => p4 h.2.2.2.1
          go_enter Tryz.func84, Tryz.ntmps84
          go_wp2_with (go_at_call 53; first | (refine (HT.out _ _ _ _ (by omega)).mono ?_; rintro e w' ⟨rfl, rfl⟩) | (refine (HN.out _ _ _ _ (by omega)).mono ?_; rintro e w' ⟨rfl, rfl⟩))
          go_ret
          exact ⟨ret_bool HF.out.symm, (Below.refl _ _).alloc (Nat.le_refl _) _⟩
      · have HF : Hid (ruleOk ⟨ev, at_, fr, to_, but⟩ = false) := ruleOk_no fun h => p3 h.2.2.1
        go_enter Tryz.func84, Tryz.ntmps84
        go_wp2_with (go_at_call 53; first | (refine (HT.out _ _ _ _ (by omega)).mono ?_; rintro e w' ⟨rfl, rfl⟩) | (refine (HN.out _ _ _ _ (by omega)).mono ?_; rintro e w' ⟨rfl, rfl⟩))
        go_ret
        exact ⟨ret_bool HF.out.symm, (Below.refl _ _).alloc (Nat.le_refl _) _⟩
    · have HF : Hid (ruleOk ⟨ev, at_, fr, to_, but⟩ = false) := ruleOk_no fun h => p2 h.2.1
      go_enter Tryz.func84, Tryz.ntmps84
      go_wp2_with (go_at_call 53; first | (refine (HT.out _ _ _ _ (by omega)).mono ?_; rintro e w' ⟨rfl, rfl⟩) | (refine (HN.out _ _ _ _ (by omega)).mono ?_; rintro e w' ⟨rfl, rfl⟩))
      go_ret
      exact ⟨ret_bool HF.out.symm, (Below.refl _ _).alloc (Nat.le_refl _) _⟩
  · have HF : Hid (ruleOk ⟨ev, at_, fr, to_, but⟩ = false) := ruleOk_no fun h => p1 h.1
    go_enter Tryz.func84, Tryz.ntmps84
    go_wp2_with (go_at_call 53; refine (HN.out _ _ _ _ (by omega)).mono ?_; rintro e w' ⟨rfl, rfl⟩)
    go_ret
    exact ⟨ret_bool HF.out.symm, (Below.refl _ _).alloc (Nat.le_refl _) _⟩
end Go.Proofs.YtnieaeakaajleaaGreatDoor

namespace Go.Proofs.YtnieaeakaajleaaGreatDoor
set_option linter.unusedVariables false
set_option linter.unusedSimpArgs false
open Go.RowKit Go

def w1B : ByteArray := ⟨#[101, 118, 101, 114, 121, 32]⟩
def w2B : ByteArray := ⟨#[32, 97, 116, 32]⟩
def w3B : ByteArray := ⟨#[32, 102, 114, 111, 109, 32]⟩
def w4B : ByteArray := ⟨#[32, 116, 111, 32]⟩
def w5B : ByteArray := ⟨#[32, 98, 117, 116]⟩
def spB : ByteArray := ⟨#[32]⟩
theorem e_spB : (⟨#[32]⟩ : ByteArray) = spB := rfl
theorem spB_size : spB.size = 1 := rfl
/-- Numbers behind a text, a space ahead of each. -/
def numsT (b : ByteArray) (l : List Int) : ByteArray := l.foldl (fun o n => o ++ spB ++ itoB n) b
theorem numsT_snoc (b : ByteArray) (l : List Int) (n : Int) : numsT b (l ++ [n]) = numsT b l ++ spB ++ itoB n := by simp [numsT]
def Fits (n : Int) : Prop := -9223372036854775807 ≤ n ∧ n ≤ 9223372036854775807
theorem numsT_size (l : List Int) (h : ∀ n ∈ l, Fits n) (b : ByteArray) : (numsT b l).size ≤ b.size + 22 * l.length := by
  induction l generalizing b with
  | nil => simp [numsT]
  | cons n l ih =>
    have h1 := ih (fun x hx => h x (List.mem_cons_of_mem _ hx)) (b ++ spB ++ itoB n)
    have h0 : Fits n := h n List.mem_cons_self
    have h2 := itoB_size n (by have := h0.1; omega) h0.2
    have e : numsT b (n :: l) = numsT (b ++ spB ++ itoB n) l := rfl
    rw [e]
    simp only [ByteArray.size_append, spB_size, List.length_cons] at h1 ⊢
    omega
def headT (r : Rul) : ByteArray := w1B ++ itoB r.ev ++ w2B ++ itoB r.at_ ++ w3B ++ itoB r.fr ++ w4B ++ itoB r.to_
/-- A rule's text, with no newline. -/
def rulT (r : Rul) : ByteArray := numsT (if r.but = [] then headT r else headT r ++ w5B) r.but
theorem rule_fits {r : Rul} (h : RuleOk r) : ∀ i, i < r.but.length → Fits (r.but.getD i 0) := fun i hi => ⟨by have := (h.2.2.2.2.2 i hi).1; omega, by have := (h.2.2.2.2.2 i hi).2.1; omega⟩
theorem fits_all {l : List Int} (h : ∀ i, i < l.length → Fits (l.getD i 0)) : ∀ n ∈ l, Fits n := fun n hn => by
  obtain ⟨i, hi, rfl⟩ := List.mem_iff_getElem.mp hn
  have := h i hi
  rwa [getD_at l i hi] at this

end Go.Proofs.YtnieaeakaajleaaGreatDoor
