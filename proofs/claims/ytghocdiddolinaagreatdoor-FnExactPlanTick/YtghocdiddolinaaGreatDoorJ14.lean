/- The program's isWithin and isTick. -/
import Derived.Test.YtghocdiddolinaaGreatDoorJ7
import Derived.Test.YtghocdiddolinaaGreatDoorJ13
import Derived.Test.YtghocdiddolinaaGreatDoorJ2
import Derived.BigQuiet
import Derived.Deep.QuietTactic
import Derived.Test.YtghocdiddolinaaGreatDoorJ1
namespace Go.Proofs.YtghocdiddolinaaGreatDoor
set_option linter.unusedVariables false
set_option linter.unusedSimpArgs false
open Go.RowKit Go
namespace Pl

/-- n marks of two numbers each, from k on. -/
def mT (k : Nat) : Nat → List Tld
  | 0 => []
  | n + 1 => mT k n ++ [⟨((k + 2 * n : Nat) : Int), ((k + 2 * n + 1 : Nat) : Int)⟩]
theorem mT_len (k n : Nat) : (mT k n).length = n := by
  induction n with
  | zero => rfl
  | succ n ih => simp [mT, ih]
theorem mT_at (k n i : Nat) (h : i < (mT k n).length) : (mT k n)[i] = ⟨((k + 2 * i : Nat) : Int), ((k + 2 * i + 1 : Nat) : Int)⟩ := by
  induction n with
  | zero => simp [mT] at h
  | succ n ih =>
    simp only [mT]
    by_cases hi : i < (mT k n).length
    · rw [List.getElem_append_left hi, ih hi]
    · have hl := mT_len k n
      have : i = n := by simp [mT] at h; omega
      subst this
      rw [List.getElem_append_right (by omega)]
      simp
theorem set_two {α : Type} (a b : List α) (x y u v : α) : ((a ++ x :: y :: b).set a.length u).set (a.length + 1) v = a ++ u :: v :: b := by
  rw [List.set_append_right _ _ (Nat.le_refl _), Nat.sub_self, List.set_cons_zero, List.set_append_right _ _ (by omega), show a.length + 1 - a.length = 1 by omega]
  rfl
theorem flatT_step (ts : List Tld) (k q : Nat) (h : q < ts.length) : ((flatT (mT k q ++ ts.drop q)).set (q * 2) (.int .i64 ((k + 2 * q : Nat) : Int))).set (q * 2 + 1) (.int .i64 ((k + 2 * q + 1 : Nat) : Int)) = flatT (mT k (q + 1) ++ ts.drop (q + 1)) := by
  rw [flatT_app, flatT_app, List.drop_eq_getElem_cons h]
  have h1 : flatT (ts[q] :: ts.drop (q + 1)) = .int .i64 ts[q].tk :: .int .i64 ts[q].wh :: flatT (ts.drop (q + 1)) := rfl
  have h2 : flatT (mT k (q + 1)) = flatT (mT k q) ++ [.int .i64 ((k + 2 * q : Nat) : Int), .int .i64 ((k + 2 * q + 1 : Nat) : Int)] := by
    rw [mT, flatT_app]; rfl
  have hl : (flatT (mT k q)).length = q * 2 := by rw [flatT_len, mT_len]
  rw [h1, h2, ← hl, set_two, List.append_assoc]
  rfl

set_option maxRecDepth 4000 in
set_option maxHeartbeats 1000000 in
theorem markTold (v : Value) (base k : Nat) (ts : List Tld) (w : World) (h : w.ownsRow base 61 2 v ts.length (flatT ts)) (hk : k + 2 * ts.length ≤ 9223372036854775806) :
    Calls Tryz.prog 12 #[v, .int .i64 k] w fun e w' => e = .returned (.int .i64 ((k + 2 * ts.length : Nat) : Int)) ∧ w'.ownsRow base 61 2 v ts.length (flatT (mT k ts.length)) ∧ w.grownBy w' v.ownBlock := by
  obtain ⟨a, c, rfl⟩ : ∃ a c, v = .slice a ts.length c := by
    rcases h.2 with ⟨rfl, h0⟩ | ⟨g, cap, cur, rfl, _⟩
    · exact ⟨none, 0, by rw [h0]⟩
    · exact ⟨_, _, rfl⟩
  have HO : Hid (w.ownsRow base 61 2 (.slice a ts.length c) ts.length (flatT ts)) := h
  have hmx : ts.length ≤ 9223372036854775806 := by omega
  clear h
  go_enter Tryz.func12, Tryz.ntmps12
  go_wp2_with fail
  go_loopw [1, 5] (fun x i wr => ∃ q : Nat, x = .int .i64 ((k + 2 * q : Nat) : Int) ∧ i = .int .i64 q ∧ q ≤ ts.length ∧ wr.ownsRow base 61 2 (.slice a ts.length c) ts.length (flatT (mT k q ++ ts.drop q)) ∧ w.grownBy wr (Value.slice a ts.length c).ownBlock) (fun _ i _ => ts.length - (intOf i).toNat)
  case atStart => exact ⟨0, rfl, rfl, Nat.zero_le _, by simpa [mT] using HO.out, ⟨rfl, rfl, rfl, Nat.le_refl _, fun _ _ _ => rfl⟩⟩
  case round =>
    obtain ⟨q, rfl, rfl, hq, hown, hg⟩ := hrel
    by_cases hlt : q < ts.length
    · obtain ⟨g, rfl⟩ : ∃ g, a = some ⟨g, 0, none⟩ := by
        rcases hown.2 with ⟨h0, h1⟩ | ⟨g, cap, cur, h1, _⟩
        · omega
        · simp only [Value.slice.injEq] at h1; exact ⟨g, h1.1⟩
      have hl : (flatT (mT k q)).length = q * 2 := by rw [flatT_len, mT_len]
      have hat : ∀ j, j < 2 → (flatT (mT k q ++ ts.drop q))[q * 2 + j]? = (cellsT ts[q])[j]? := fun j hj => by
        rw [flatT_app, List.getElem?_append_right (by omega), hl, List.drop_eq_getElem_cons hlt, show q * 2 + j - q * 2 = j by omega]
        rcases (by omega : j = 0 ∨ j = 1) with rfl | rfl <;> rfl
      obtain ⟨c0, f0⟩ := Cal.own_cellAt hown (hat 0 (by omega))
      obtain ⟨c1, f1⟩ := Cal.own_cellAt hown (hat 1 (by omega))
      rw [Nat.add_zero] at c0 f0
      obtain ⟨cap, hcap⟩ : ∃ cap, ts.length ≤ cap ∧ c = cap := by
        rcases hown.2 with ⟨h0, h1⟩ | ⟨g, cap, cur, h1, _, _, h2, _⟩
        · omega
        · simp only [Value.slice.injEq] at h1; exact ⟨cap, h2, h1.2.2⟩
      obtain ⟨hcap, rfl⟩ := hcap
      have hs1 := Cal.own_setAt (Cal.own_setAt hown (i := q * 2) (by omega) (.int .i64 ((k + 2 * q : Nat) : Int))) (i := q * 2 + 1) (by omega) (.int .i64 ((k + 2 * q + 1 : Nat) : Int))
      rw [flatT_step ts k q hlt, show ((k + 2 * q + 1 : Nat) : Int) = ((k + 2 * q : Nat) : Int) + 1 by omega] at hs1
      have HOWN : Hid _ := hs1
      have HG : Hid _ := (hg.trans (Cal.grown_set wr g (q * 2) (.int .i64 ((k + 2 * q : Nat) : Int)))).trans (Cal.grown_set _ g (q * 2 + 1) (.int .i64 (((k + 2 * q : Nat) : Int) + 1)))
      clear hown hg hat hs1 hl
      generalize hK : k + 2 * q = K at HOWN HG
      have hK0 : (K : Int) ≤ 9223372036854775804 := by omega
      go_wp2_with fail
      go_roundw
      case rel => exact ⟨q + 1, by rw [show k + 2 * (q + 1) = K + 2 by omega]; go_num, by go_num, by omega, HOWN.out, HG.out⟩
      case measure => simp [intOf]; omega
    · have hqe : q = ts.length := by omega
      subst hqe
      go_wp2_with fail
      go_ret
      exact ⟨rfl, by simpa using hown, hg⟩

set_option maxRecDepth 4000 in
set_option maxHeartbeats 1000000 in
theorem heldTold (a : Option Addr) (len cap k n : Nat) (w : World) (h : IsTlds w a len cap (mT k n)) (hk : k + 2 * n ≤ 9223372036854775806) :
    Calls Tryz.prog 14 #[.slice a len cap, .int .i64 k] w fun e w' => e = .returned (.int .i64 ((k + 2 * n : Nat) : Int)) ∧ Below w.heap.size w w' := by
  obtain ⟨hz, hm⟩ := IsRecs.len h
  rw [mT_len] at hz
  subst hz
  have HR : Hid (IsTlds w a n cap (mT k n)) := h
  clear h
  go_enter Tryz.func14, Tryz.ntmps14
  go_wp2_with fail
  go_loopw [1, 5] (fun x i wr => ∃ q : Nat, x = .int .i64 ((k + 2 * q : Nat) : Int) ∧ i = .int .i64 q ∧ q ≤ n ∧ Below w.heap.size w wr) (fun _ i _ => n - (intOf i).toNat)
  case atStart => exact ⟨0, rfl, rfl, Nat.zero_le _, Below.refl _ _⟩
  case round =>
    obtain ⟨q, rfl, rfl, hq, hb⟩ := hrel
    by_cases hlt : q < n
    · have hl := mT_len k n
      obtain ⟨b, off, rfl, h1, h2, d0, d1, _⟩ := IsTlds.at (HR.out.below hb) (i := q) (by omega)
      rw [mT_at] at d0 d1
      simp only at d0 d1
      have HB : Hid _ := hb
      have HBD : Hid (∀ m, Below w.heap.size w (wr.drewN m)) := fun m => below_drewN hb m
      clear hb
      generalize hK : k + 2 * q = K at d0 d1
      have hK0 : (K : Int) ≤ 9223372036854775804 := by omega
      go_wp2_with fail
      go_roundw
      case rel => exact ⟨q + 1, by rw [show k + 2 * (q + 1) = K + 2 by omega]; go_num, by go_num, by omega, by first | exact HB.out | exact HBD.out _⟩
      case measure => simp [intOf]; omega
    · have hqe : q = n := by omega
      subst hqe
      go_wp2_with fail
      go_ret
      exact ⟨rfl, hb⟩
end Pl
end Go.Proofs.YtghocdiddolinaaGreatDoor

namespace Go.Proofs.YtghocdiddolinaaGreatDoor
set_option linter.unusedVariables false
set_option linter.unusedSimpArgs false
open Go.RowKit Go

set_option maxHeartbeats 400000 in
theorem l41In (n lo hi : Int) (w : World) :
    Calls Tryz.prog 43 #[.int .i64 n, .int .i64 lo, .int .i64 hi] w fun e w' => e = .returned (.bool (decide (lo ≤ n ∧ n ≤ hi))) ∧ w' = w := by
  by_cases h1 : lo ≤ n
  · by_cases h2 : n ≤ hi
    · rw [decide_eq_true ⟨h1, h2⟩]
      go_enter Tryz.func43, Tryz.ntmps43
      go_wp2
      go_ret
      exact ⟨by simp [h1, h2], rfl⟩
    · rw [decide_eq_false (fun h => h2 h.2)]
      go_enter Tryz.func43, Tryz.ntmps43
      go_wp2
      go_ret
      exact ⟨by first | (simp; done) | (simp; omega), rfl⟩
  · rw [decide_eq_false (fun h => h1 h.1)]
    go_enter Tryz.func43, Tryz.ntmps43
    go_wp2
    go_ret
    exact ⟨by first | (simp; done) | (simp; omega), rfl⟩

theorem quiet_again {P : Program} {f : FuncId} {args : Array Value} {w : World} {m n : Nat} {v : Value} (h : Calls P f args (w.drewN (m + n)) fun e w' => e = .returned v ∧ w' = w.drewN (m + n)) :
    Calls P f args (w.drewN (m + n)) fun e w'' => e = .returned v ∧ ∃ q, w'' = w.drewN (m + q) := h.mono fun _ _ ⟨he, hm⟩ => ⟨he, n, hm⟩
/-- A tick that is left out, at its place. -/
def butAt (l : List Int) (i : Nat) : Prop := 0 ≤ l.getD i 0 ∧ l.getD i 0 ≤ 100000 ∧ (0 < i → l.getD (i - 1) 0 < l.getD i 0)
def RuleOk (r : Rul) : Prop := (1 ≤ r.ev ∧ r.ev ≤ 1000) ∧ (0 ≤ r.at_ ∧ r.at_ ≤ r.ev - 1) ∧ (0 ≤ r.fr ∧ r.fr ≤ 100000) ∧ (r.fr ≤ r.to_ ∧ r.to_ ≤ 100000) ∧ r.but.length ≤ 8 ∧ ∀ i, i < r.but.length → butAt r.but i
instance (l : List Int) (i : Nat) : Decidable (butAt l i) := by unfold butAt; infer_instance
instance (r : Rul) : Decidable (RuleOk r) := by unfold RuleOk; infer_instance
def ruleOk (r : Rul) : Bool := decide (RuleOk r)
theorem ruleOk_no {r : Rul} (h : ¬ RuleOk r) : ruleOk r = false := by unfold ruleOk; exact decide_eq_false h
theorem ruleOk_yes {r : Rul} (h : RuleOk r) : ruleOk r = true := by unfold ruleOk; exact decide_eq_true h

set_option maxRecDepth 4000 in
set_option maxHeartbeats 2000000 in
theorem l41RuleOk (r : Rul) (a : Option Addr) (len cap : Nat) (w : World) (hr : IsRow .i64 w a len cap r.but) :
    Calls Tryz.prog 63 #[.agg #[.int .i64 r.ev, .int .i64 r.at_, .int .i64 r.fr, .int .i64 r.to_, .slice a len cap]] w fun x w' => x = .returned (.bool (ruleOk r)) ∧ Below w.heap.size w w' := by
  obtain ⟨hz, hm⟩ := hr.len
  unfold maxLen at hm
  have HR : Hid (IsRow .i64 w a len cap r.but) := hr
  clear hr
  have HI : Hid (∀ n lo hi w, Calls Tryz.prog 43 #[.int .i64 n, .int .i64 lo, .int .i64 hi] w fun x w' => x = .returned (.bool (decide (lo ≤ n ∧ n ≤ hi))) ∧ w' = w) := l41In
  have HT : Hid (∀ n lo hi w, lo ≤ n ∧ n ≤ hi → Calls Tryz.prog 43 #[.int .i64 n, .int .i64 lo, .int .i64 hi] w fun x w' => x = .returned (.bool true) ∧ w' = w) := fun n lo hi w h => by have := l41In n lo hi w; rwa [decide_eq_true h] at this
  have HN : Hid (∀ n lo hi w, ¬ (lo ≤ n ∧ n ≤ hi) → Calls Tryz.prog 43 #[.int .i64 n, .int .i64 lo, .int .i64 hi] w fun x w' => x = .returned (.bool false) ∧ w' = w) := fun n lo hi w h => by have := l41In n lo hi w; rwa [decide_eq_false h] at this
  obtain ⟨ev, at_, fr, to_, but⟩ := r
  dsimp only at *
  by_cases p1 : 1 ≤ ev ∧ ev ≤ 1000
  · by_cases p2 : 0 ≤ at_ ∧ at_ ≤ ev - 1
    · by_cases p3 : 0 ≤ fr ∧ fr ≤ 100000
      · by_cases p4 : fr ≤ to_ ∧ to_ ≤ 100000
        · by_cases p5 : len ≤ 8
          · go_enter Tryz.func63, Tryz.ntmps63
            go_wp2_with (go_at_call 43; refine (HT.out _ _ _ _ (by omega)).mono ?_; rintro e w' ⟨rfl, rfl⟩)
            go_loopw [3] (fun i wr => ∃ k m : Nat, k ≤ len ∧ i = .int .i64 k ∧ (∀ i, i < k → butAt but i) ∧ wr = (w.alloc (.cells #[.int .i64 ev, .int .i64 at_, .int .i64 fr, .int .i64 to_, .slice a len cap] 73)).drewN m) (fun i _ => len - (intOf i).toNat)
            case atStart => exact ⟨0, 0, Nat.zero_le _, rfl, fun i h => by omega, rfl⟩
            case round =>
              obtain ⟨k, m, hk, rfl, hb, rfl⟩ := hrel
              have HB : Hid (∀ i, i < k → butAt but i) := hb
              clear hb
              by_cases hlt : k < len
              · obtain ⟨b, off, rfl, h1, h2, hc⟩ := IsRow.at HR.out hlt
                have HBN : Hid (∀ m, Below w.heap.size w ((w.alloc (.cells #[.int .i64 ev, .int .i64 at_, .int .i64 fr, .int .i64 to_, .slice (some ⟨b, off, none⟩) len cap] 73)).drewN m)) := fun m => below_drewN ((Below.refl _ _).alloc (Nat.le_refl _) _) m
                by_cases hin : 0 ≤ but.getD k 0 ∧ but.getD k 0 ≤ 100000
                · have HIN : Hid (∀ w, Calls Tryz.prog 43 #[.int .i64 (but.getD k 0), .int .i64 0, .int .i64 100000] w fun x w' => x = .returned (.bool true) ∧ w' = w) := fun w => HT.out _ _ _ w hin
                  cases k with
                  | zero =>
                    have HB1 : Hid (∀ i, i < 0 + 1 → butAt but i) := fun i hi => by
                      have : i = 0 := by omega
                      subst this
                      exact ⟨hin.1, hin.2, fun h => by omega⟩
                    clear hin
                    generalize but.getD 0 0 = z at hc HIN
                    simp only [Nat.add_zero] at hc
                    go_wp2_with fail
                    go_quiet ((go_at_call 43; exact quiet_again (HIN.out _)))
                    go_wp2_with fail
                    go_roundw
                    case rel => exact ⟨0 + 1, _, by omega, by go_num, HB1.out, rfl⟩
                    case measure => simp [intOf]; omega
                  | succ j =>
                    obtain ⟨b', off', e', _, _, hcj⟩ := IsRow.at HR.out (i := j) (by omega)
                    cases e'
                    by_cases hlt2 : but.getD j 0 < but.getD (j + 1) 0
                    · have HB1 : Hid (∀ i, i < j + 1 + 1 → butAt but i) := fun i hi => by
                        by_cases e : i = j + 1
                        · subst e; exact ⟨hin.1, hin.2, fun _ => hlt2⟩
                        · exact HB.out i (by omega)
                      clear hin
                      generalize but.getD (j + 1) 0 = z at hc HIN hlt2
                      generalize but.getD j 0 = y at hcj hlt2
                      have hd : decide (z ≤ y) = false := decide_eq_false (by omega)
                      go_wp2_with fail
                      go_quiet ((go_at_call 43; exact quiet_again (HIN.out _)))
                      go_wp2_with fail
                      go_roundw
                      case rel => exact ⟨j + 1 + 1, _, by omega, by go_num, HB1.out, rfl⟩
                      case measure => simp [intOf]; omega
                    · have HF : Hid (ruleOk ⟨ev, at_, fr, to_, but⟩ = false) := ruleOk_no fun h => hlt2 ((h.2.2.2.2.2 (j + 1) (by dsimp only; omega)).2.2 (by omega))
                      clear hin
                      generalize but.getD (j + 1) 0 = z at hc HIN hlt2
                      generalize but.getD j 0 = y at hcj hlt2
                      have hd : z ≤ y := by omega
                      clear hlt2
                      go_wp2_with fail
                      go_quiet ((go_at_call 43; exact quiet_again (HIN.out _)))
                      go_wp2_with fail
                      go_ret
                      exact ⟨ret_bool HF.out.symm, by first | exact HBN.out _ | exact below_drewN (HBN.out _) _⟩
                · have HIN : Hid (∀ w, Calls Tryz.prog 43 #[.int .i64 (but.getD k 0), .int .i64 0, .int .i64 100000] w fun x w' => x = .returned (.bool false) ∧ w' = w) := fun w => HN.out _ _ _ w hin
                  have HF : Hid (ruleOk ⟨ev, at_, fr, to_, but⟩ = false) := ruleOk_no fun h => hin ⟨(h.2.2.2.2.2 k (by dsimp only; omega)).1, (h.2.2.2.2.2 k (by dsimp only; omega)).2.1⟩
                  clear hin
                  generalize but.getD k 0 = z at hc HIN
                  go_wp2_with fail
                  go_quiet ((go_at_call 43; exact quiet_again (HIN.out _)))
                  go_wp2_with fail
                  go_ret
                  exact ⟨ret_bool HF.out.symm, by first | exact HBN.out _ | exact below_drewN (HBN.out _) _⟩
              · have HF : Hid (ruleOk ⟨ev, at_, fr, to_, but⟩ = true) := ruleOk_yes ⟨p1, p2, p3, p4, by dsimp only; omega, fun i hi => HB.out i (by dsimp only at hi; omega)⟩
                go_wp2
                go_ret
                exact ⟨ret_bool HF.out.symm, below_drewN ((Below.refl _ _).alloc (Nat.le_refl _) _) _⟩
          · have HF : Hid (ruleOk ⟨ev, at_, fr, to_, but⟩ = false) := ruleOk_no fun h => p5 (by have := h.2.2.2.2.1; dsimp only at this; omega)
            go_enter Tryz.func63, Tryz.ntmps63
            go_wp2_with (go_at_call 43; refine (HT.out _ _ _ _ (by omega)).mono ?_; rintro e w' ⟨rfl, rfl⟩)
            go_ret
            exact ⟨ret_bool HF.out.symm, (Below.refl _ _).alloc (Nat.le_refl _) _⟩
        · have HF : Hid (ruleOk ⟨ev, at_, fr, to_, but⟩ = false) := ruleOk_no fun h => p4 h.2.2.2.1
          go_enter Tryz.func63, Tryz.ntmps63
          go_wp2_with (go_at_call 43; first | (refine (HT.out _ _ _ _ (by omega)).mono ?_; rintro e w' ⟨rfl, rfl⟩) | (refine (HN.out _ _ _ _ (by omega)).mono ?_; rintro e w' ⟨rfl, rfl⟩))
          go_ret
          exact ⟨ret_bool HF.out.symm, (Below.refl _ _).alloc (Nat.le_refl _) _⟩
      · have HF : Hid (ruleOk ⟨ev, at_, fr, to_, but⟩ = false) := ruleOk_no fun h => p3 h.2.2.1
        go_enter Tryz.func63, Tryz.ntmps63
        go_wp2_with (go_at_call 43; first | (refine (HT.out _ _ _ _ (by omega)).mono ?_; rintro e w' ⟨rfl, rfl⟩) | (refine (HN.out _ _ _ _ (by omega)).mono ?_; rintro e w' ⟨rfl, rfl⟩))
        go_ret
        exact ⟨ret_bool HF.out.symm, (Below.refl _ _).alloc (Nat.le_refl _) _⟩
    · have HF : Hid (ruleOk ⟨ev, at_, fr, to_, but⟩ = false) := ruleOk_no fun h => p2 h.2.1
      go_enter Tryz.func63, Tryz.ntmps63
      go_wp2_with (go_at_call 43; first | (refine (HT.out _ _ _ _ (by omega)).mono ?_; rintro e w' ⟨rfl, rfl⟩) | (refine (HN.out _ _ _ _ (by omega)).mono ?_; rintro e w' ⟨rfl, rfl⟩))
      go_ret
      exact ⟨ret_bool HF.out.symm, (Below.refl _ _).alloc (Nat.le_refl _) _⟩
  · have HF : Hid (ruleOk ⟨ev, at_, fr, to_, but⟩ = false) := ruleOk_no fun h => p1 h.1
    go_enter Tryz.func63, Tryz.ntmps63
    go_wp2_with (go_at_call 43; refine (HN.out _ _ _ _ (by omega)).mono ?_; rintro e w' ⟨rfl, rfl⟩)
    go_ret
    exact ⟨ret_bool HF.out.symm, (Below.refl _ _).alloc (Nat.le_refl _) _⟩
end Go.Proofs.YtghocdiddolinaaGreatDoor

namespace Go.Proofs.YtghocdiddolinaaGreatDoor
set_option linter.unusedVariables false
set_option linter.unusedSimpArgs false
open Go.RowKit Go

set_option maxHeartbeats 400000 in
theorem isWithin (n lo hi : Int) (w : World) :
    Calls Tryz.prog 67 #[.int .i64 n, .int .i64 lo, .int .i64 hi] w fun e w' => e = .returned (.bool (decide (lo ≤ n ∧ n ≤ hi))) ∧ w' = w := by
  by_cases h1 : lo ≤ n
  · by_cases h2 : n ≤ hi
    · rw [decide_eq_true ⟨h1, h2⟩]
      go_enter Tryz.func67, Tryz.ntmps67
      go_wp2
      go_ret
      exact ⟨by simp [h1, h2], rfl⟩
    · rw [decide_eq_false (fun h => h2 h.2)]
      go_enter Tryz.func67, Tryz.ntmps67
      go_wp2
      go_ret
      exact ⟨by first | (simp; done) | (simp; omega), rfl⟩
  · rw [decide_eq_false (fun h => h1 h.1)]
    go_enter Tryz.func67, Tryz.ntmps67
    go_wp2
    go_ret
    exact ⟨by first | (simp; done) | (simp; omega), rfl⟩
theorem isWithin_t (n lo hi : Int) (h : lo ≤ n ∧ n ≤ hi) (w : World) :
    Calls Tryz.prog 67 #[.int .i64 n, .int .i64 lo, .int .i64 hi] w fun e w' => e = .returned (.bool true) ∧ w' = w := by
  have := isWithin n lo hi w; rwa [decide_eq_true h] at this
theorem isWithin_f (n lo hi : Int) (h : ¬ (lo ≤ n ∧ n ≤ hi)) (w : World) :
    Calls Tryz.prog 67 #[.int .i64 n, .int .i64 lo, .int .i64 hi] w fun e w' => e = .returned (.bool false) ∧ w' = w := by
  have := isWithin n lo hi w; rwa [decide_eq_false h] at this

theorem isTick (z : Int) (w : World) : Calls Tryz.prog 80 #[.int .i64 z] w fun e w' => e = .returned (.bool (decide (0 ≤ z ∧ z ≤ 100000))) ∧ w' = w := by
  have HI := isWithin z 0 100000
  generalize decide (0 ≤ z ∧ z ≤ 100000) = v at HI ⊢
  have HI : Hid _ := HI
  go_enter Tryz.func80, Tryz.ntmps80
  go_wp2_with (go_at_call 67; refine (HI.out _).mono ?_; rintro e w1 ⟨rfl, rfl⟩)
  go_ret
  exact ⟨rfl, rfl⟩
end Go.Proofs.YtghocdiddolinaaGreatDoor
