/- The model's rules: which are ok. -/
import Derived.Test.YtkemfifkjaclhaaDoorCR0
import Derived.BigQuiet
import Derived.Deep.QuietTactic
namespace Go.Proofs.YtkemfifkjaclhaaDoor
set_option linter.unusedVariables false
set_option linter.unusedSimpArgs false
open Go.RowKit Go

set_option maxHeartbeats 400000 in
theorem l41In (n lo hi : Int) (w : World) :
    Calls Tryd.prog 29 #[.int .i64 n, .int .i64 lo, .int .i64 hi] w fun e w' => e = .returned (.bool (decide (lo ≤ n ∧ n ≤ hi))) ∧ w' = w := by
  by_cases h1 : lo ≤ n
  · by_cases h2 : n ≤ hi
    · rw [decide_eq_true ⟨h1, h2⟩]
      go_enter Tryd.func29, Tryd.ntmps29
      go_wp2
      go_ret
      exact ⟨by simp [h1, h2], rfl⟩
    · rw [decide_eq_false (fun h => h2 h.2)]
      go_enter Tryd.func29, Tryd.ntmps29
      go_wp2
      go_ret
      exact ⟨by first | (simp; done) | (simp; omega), rfl⟩
  · rw [decide_eq_false (fun h => h1 h.1)]
    go_enter Tryd.func29, Tryd.ntmps29
    go_wp2
    go_ret
    exact ⟨by first | (simp; done) | (simp; omega), rfl⟩

theorem quiet_again {P : Program} {f : FuncId} {args : Array Value} {w : World} {m n : Nat} {v : Value} (h : Calls P f args (w.drewN (m + n)) fun e w' => e = .returned v ∧ w' = w.drewN (m + n)) :
    Calls P f args (w.drewN (m + n)) fun e w'' => e = .returned v ∧ ∃ q, w'' = w.drewN (m + q) := h.mono fun _ _ ⟨he, hm⟩ => ⟨he, n, hm⟩
/-- A tick that is left out, at its place. -/
def butAt (l : List Int) (i : Nat) : Prop := 0 ≤ l.getD i 0 ∧ l.getD i 0 ≤ 100000 ∧ (0 < i → l.getD (i - 1) 0 < l.getD i 0)
def RuleOk (r : Rul) : Prop := (1 ≤ r.ev ∧ r.ev ≤ 1000) ∧ (0 ≤ r.at_ ∧ r.at_ ≤ r.ev - 1) ∧ (0 ≤ r.fr ∧ r.fr ≤ 100000) ∧ (r.fr ≤ r.to_ ∧ r.to_ ≤ 100000) ∧ r.but.length ≤ 8 ∧ ∀ i, i < r.but.length → butAt r.but i
instance (l : List Int) (i : Nat) : Decidable (butAt l i) := by unfold butAt; infer_instance
instance (r : Rul) : Decidable (RuleOk r) := by unfold RuleOk; infer_instance
def ruleOk (r : Rul) : Bool := decide (RuleOk r)
theorem ruleOk_no {r : Rul} (h : ¬ RuleOk r) : ruleOk r = false := by unfold ruleOk; exact decide_eq_false h
theorem ruleOk_yes {r : Rul} (h : RuleOk r) : ruleOk r = true := by unfold ruleOk; exact decide_eq_true h

set_option maxRecDepth 4000 in
set_option maxHeartbeats 2000000 in
theorem l41RuleOk (r : Rul) (a : Option Addr) (len cap : Nat) (w : World) (hr : IsRow .i64 w a len cap r.but) :
    Calls Tryd.prog 28 #[.agg #[.int .i64 r.ev, .int .i64 r.at_, .int .i64 r.fr, .int .i64 r.to_, .slice a len cap]] w fun x w' => x = .returned (.bool (ruleOk r)) ∧ Below w.heap.size w w' := by
  obtain ⟨hz, hm⟩ := hr.len
  unfold maxLen at hm
  have HR : Hid (IsRow .i64 w a len cap r.but) := hr
  clear hr
  have HI : Hid (∀ n lo hi w, Calls Tryd.prog 29 #[.int .i64 n, .int .i64 lo, .int .i64 hi] w fun x w' => x = .returned (.bool (decide (lo ≤ n ∧ n ≤ hi))) ∧ w' = w) := l41In
  have HT : Hid (∀ n lo hi w, lo ≤ n ∧ n ≤ hi → Calls Tryd.prog 29 #[.int .i64 n, .int .i64 lo, .int .i64 hi] w fun x w' => x = .returned (.bool true) ∧ w' = w) := fun n lo hi w h => by have := l41In n lo hi w; rwa [decide_eq_true h] at this
  have HN : Hid (∀ n lo hi w, ¬ (lo ≤ n ∧ n ≤ hi) → Calls Tryd.prog 29 #[.int .i64 n, .int .i64 lo, .int .i64 hi] w fun x w' => x = .returned (.bool false) ∧ w' = w) := fun n lo hi w h => by have := l41In n lo hi w; rwa [decide_eq_false h] at this
  obtain ⟨ev, at_, fr, to_, but⟩ := r
  dsimp only at *
  by_cases p1 : 1 ≤ ev ∧ ev ≤ 1000
  · by_cases p2 : 0 ≤ at_ ∧ at_ ≤ ev - 1
    · by_cases p3 : 0 ≤ fr ∧ fr ≤ 100000
      · by_cases p4 : fr ≤ to_ ∧ to_ ≤ 100000
        · by_cases p5 : len ≤ 8
          · go_enter Tryd.func28, Tryd.ntmps28
            go_wp2_with (go_at_call 29; refine (HT.out _ _ _ _ (by omega)).mono ?_; rintro e w' ⟨rfl, rfl⟩)
            go_loopw [3] (fun i wr => ∃ k m : Nat, k ≤ len ∧ i = .int .i64 k ∧ (∀ i, i < k → butAt but i) ∧ wr = (w.alloc (.cells #[.int .i64 ev, .int .i64 at_, .int .i64 fr, .int .i64 to_, .slice a len cap] 43)).drewN m) (fun i _ => len - (intOf i).toNat)
            case atStart => exact ⟨0, 0, Nat.zero_le _, rfl, fun i h => by omega, rfl⟩
            case round =>
              obtain ⟨k, m, hk, rfl, hb, rfl⟩ := hrel
              have HB : Hid (∀ i, i < k → butAt but i) := hb
              clear hb
              by_cases hlt : k < len
              · obtain ⟨b, off, rfl, h1, h2, hc⟩ := IsRow.at HR.out hlt
                have HBN : Hid (∀ m, Below w.heap.size w ((w.alloc (.cells #[.int .i64 ev, .int .i64 at_, .int .i64 fr, .int .i64 to_, .slice (some ⟨b, off, none⟩) len cap] 43)).drewN m)) := fun m => below_drewN ((Below.refl _ _).alloc (Nat.le_refl _) _) m
                by_cases hin : 0 ≤ but.getD k 0 ∧ but.getD k 0 ≤ 100000
                · have HIN : Hid (∀ w, Calls Tryd.prog 29 #[.int .i64 (but.getD k 0), .int .i64 0, .int .i64 100000] w fun x w' => x = .returned (.bool true) ∧ w' = w) := fun w => HT.out _ _ _ w hin
                  cases k with
                  | zero =>
                    have HB1 : Hid (∀ i, i < 0 + 1 → butAt but i) := fun i hi => by
                      have : i = 0 := by omega
                      subst this
                      exact ⟨hin.1, hin.2, fun h => by omega⟩
                    clear hin
                    generalize but.getD 0 0 = z at hc HIN
                    simp only [Nat.add_zero] at hc
                    go_wp2_with fail
                    go_quiet ((go_at_call 29; exact quiet_again (HIN.out _)))
                    go_wp2_with fail
                    go_roundw
                    case rel => exact ⟨0 + 1, _, by omega, by go_num, HB1.out, rfl⟩
                    case measure => simp [intOf]; omega
                  | succ j =>
                    obtain ⟨b', off', e', _, _, hcj⟩ := IsRow.at HR.out (i := j) (by omega)
                    cases e'
                    by_cases hlt2 : but.getD j 0 < but.getD (j + 1) 0
                    · have HB1 : Hid (∀ i, i < j + 1 + 1 → butAt but i) := fun i hi => by
                        by_cases e : i = j + 1
                        · subst e; exact ⟨hin.1, hin.2, fun _ => hlt2⟩
                        · exact HB.out i (by omega)
                      clear hin
                      generalize but.getD (j + 1) 0 = z at hc HIN hlt2
                      generalize but.getD j 0 = y at hcj hlt2
                      have hd : decide (z ≤ y) = false := decide_eq_false (by omega)
                      go_wp2_with fail
                      go_quiet ((go_at_call 29; exact quiet_again (HIN.out _)))
                      go_wp2_with fail
                      go_roundw
                      case rel => exact ⟨j + 1 + 1, _, by omega, by go_num, HB1.out, rfl⟩
                      case measure => simp [intOf]; omega
                    · have HF : Hid (ruleOk ⟨ev, at_, fr, to_, but⟩ = false) := ruleOk_no fun h => hlt2 ((h.2.2.2.2.2 (j + 1) (by dsimp only; omega)).2.2 (by omega))
                      clear hin
                      generalize but.getD (j + 1) 0 = z at hc HIN hlt2
                      generalize but.getD j 0 = y at hcj hlt2
                      have hd : z ≤ y := by omega
                      clear hlt2
                      go_wp2_with fail
                      go_quiet ((go_at_call 29; exact quiet_again (HIN.out _)))
                      go_wp2_with fail
                      go_ret
                      exact ⟨ret_bool HF.out.symm, by first | exact HBN.out _ | exact below_drewN (HBN.out _) _⟩
                · have HIN : Hid (∀ w, Calls Tryd.prog 29 #[.int .i64 (but.getD k 0), .int .i64 0, .int .i64 100000] w fun x w' => x = .returned (.bool false) ∧ w' = w) := fun w => HN.out _ _ _ w hin
                  have HF : Hid (ruleOk ⟨ev, at_, fr, to_, but⟩ = false) := ruleOk_no fun h => hin ⟨(h.2.2.2.2.2 k (by dsimp only; omega)).1, (h.2.2.2.2.2 k (by dsimp only; omega)).2.1⟩
                  clear hin
                  generalize but.getD k 0 = z at hc HIN
                  go_wp2_with fail
                  go_quiet ((go_at_call 29; exact quiet_again (HIN.out _)))
                  go_wp2_with fail
                  go_ret
                  exact ⟨ret_bool HF.out.symm, by first | exact HBN.out _ | exact below_drewN (HBN.out _) _⟩
              · have HF : Hid (ruleOk ⟨ev, at_, fr, to_, but⟩ = true) := ruleOk_yes ⟨p1, p2, p3, p4, by dsimp only; omega, fun i hi => HB.out i (by dsimp only at hi; omega)⟩
                go_wp2
                go_ret
                exact ⟨ret_bool HF.out.symm, below_drewN ((Below.refl _ _).alloc (Nat.le_refl _) _) _⟩
          · have HF : Hid (ruleOk ⟨ev, at_, fr, to_, but⟩ = false) := ruleOk_no fun h => p5 (by have := h.2.2.2.2.1; dsimp only at this; omega)
            go_enter Tryd.func28, Tryd.ntmps28
            go_wp2_with (go_at_call 29; refine (HT.out _ _ _ _ (by omega)).mono ?_; rintro e w' ⟨rfl, rfl⟩)
            go_ret
            exact ⟨ret_bool HF.out.symm, (Below.refl _ _).alloc (Nat.le_refl _) _⟩
        · have HF : Hid (ruleOk ⟨ev, at_, fr, to_, but⟩ = false) := ruleOk_no fun h => p4 h.2.2.2.1
          go_enter Tryd.func28, Tryd.ntmps28
          go_wp2_with (go_at_call 29; first | (refine (HT.out _ _ _ _ (by omega)).mono ?_; rintro e w' ⟨rfl, rfl⟩) | (refine (HN.out _ _ _ _ (by omega)).mono ?_; rintro e w' ⟨rfl, rfl⟩))
          go_ret
          exact ⟨ret_bool HF.out.symm, (Below.refl _ _).alloc (Nat.le_refl _) _⟩
      · have HF : Hid (ruleOk ⟨ev, at_, fr, to_, but⟩ = false) := ruleOk_no fun h => p3 h.2.2.1
        go_enter Tryd.func28, Tryd.ntmps28
        go_wp2_with (go_at_call 29; first | (refine (HT.out _ _ _ _ (by omega)).mono ?_; rintro e w' ⟨rfl, rfl⟩) | (refine (HN.out _ _ _ _ (by omega)).mono ?_; rintro e w' ⟨rfl, rfl⟩))
        go_ret
        exact ⟨ret_bool HF.out.symm, (Below.refl _ _).alloc (Nat.le_refl _) _⟩
    · have HF : Hid (ruleOk ⟨ev, at_, fr, to_, but⟩ = false) := ruleOk_no fun h => p2 h.2.1
      go_enter Tryd.func28, Tryd.ntmps28
      go_wp2_with (go_at_call 29; first | (refine (HT.out _ _ _ _ (by omega)).mono ?_; rintro e w' ⟨rfl, rfl⟩) | (refine (HN.out _ _ _ _ (by omega)).mono ?_; rintro e w' ⟨rfl, rfl⟩))
      go_ret
      exact ⟨ret_bool HF.out.symm, (Below.refl _ _).alloc (Nat.le_refl _) _⟩
  · have HF : Hid (ruleOk ⟨ev, at_, fr, to_, but⟩ = false) := ruleOk_no fun h => p1 h.1
    go_enter Tryd.func28, Tryd.ntmps28
    go_wp2_with (go_at_call 29; refine (HN.out _ _ _ _ (by omega)).mono ?_; rintro e w' ⟨rfl, rfl⟩)
    go_ret
    exact ⟨ret_bool HF.out.symm, (Below.refl _ _).alloc (Nat.le_refl _) _⟩
end Go.Proofs.YtkemfifkjaclhaaDoor
