/- The model's PlanOk. -/
import Derived.Test.YtghocdiddolinaaGreatDoorJ24
import Derived.Test.YtghocdiddolinaaGreatDoorJ20
import Derived.Test.YtghocdiddolinaaGreatDoorJ27
import Derived.BigQuiet
namespace Go.Proofs.YtghocdiddolinaaGreatDoor
set_option linter.unusedVariables false
set_option linter.unusedSimpArgs false
open Go.RowKit Go
namespace Pl

set_option maxRecDepth 4000 in
set_option maxHeartbeats 4000000 in
theorem specPlanOk (ra : Option Addr) (rl rc : Nat) (ga : Option Addr) (gl gc : Nat) (wa : Option Addr) (wl wk : Nat) (ta : Option Addr) (tl tc : Nat) (p : Pla) (w : World) (hp : IsPla w ra rl rc ga gl gc wa wl wk ta tl tc p) :
    Calls Tryz.prog 20 #[.agg #[.slice ra rl rc, .int .i64 p.pol, .int .i64 p.win, .int .i64 p.last, .slice ga gl gc, .slice wa wl wk, .slice ta tl tc]] w fun e w' => e = .returned (.bool (planOk p)) ∧ Below w.heap.size w w' := by
  have hrl := (IsRecs.len hp.1).1
  obtain ⟨hgl, hgm⟩ := hp.2.1.len
  obtain ⟨hwl, hwm⟩ := hp.2.2.1.len
  obtain ⟨htl, htm⟩ := IsRecs.len hp.2.2.2
  unfold maxLen at hgm hwm htm
  have HP : Hid _ := hp
  clear hp
  have HK : Hid (∀ w', Below w.heap.size w w' → Calls Tryz.prog 42 #[.slice ra rl rc] w' fun e w'' => e = .returned (.bool (calOk p.rs)) ∧ Below w'.heap.size w' w'') := fun w' hb => specCalOk _ _ _ p.rs w' (IsPla.below HP.out hb).1
  have HT : Hid (∀ n lo hi w, lo ≤ n ∧ n ≤ hi → Calls Tryz.prog 43 #[.int .i64 n, .int .i64 lo, .int .i64 hi] w fun x w' => x = .returned (.bool true) ∧ w' = w) := fun n lo hi w h => by have := l41In n lo hi w; rwa [decide_eq_true h] at this
  have HN : Hid (∀ n lo hi w, ¬ (lo ≤ n ∧ n ≤ hi) → Calls Tryz.prog 43 #[.int .i64 n, .int .i64 lo, .int .i64 hi] w fun x w' => x = .returned (.bool false) ∧ w' = w) := fun n lo hi w h => by have := l41In n lo hi w; rwa [decide_eq_false h] at this
  have HM : Hid (∀ w, Calls Tryz.prog 44 #[.int .i64 p.pol] w fun e w' => e = .returned (.tuple #[.int .i64 (mostG p.pol), .int .i64 (mostW p.pol)]) ∧ w' = w) := fun w => l42Most p.pol w
  have hbox0 : Below w.heap.size w (w.alloc (.cells #[.slice ra rl rc, .int .i64 p.pol, .int .i64 p.win, .int .i64 p.last, .slice ga gl gc, .slice wa wl wk, .slice ta tl tc] 31)) := (Below.refl _ _).alloc (Nat.le_refl _) _
  have HBOX0 : Hid _ := hbox0
  clear hbox0
  go_enter Tryz.func20, Tryz.ntmps20
  go_upto_region 1 with fail
  go_cut [34] (fun t34 wx => ValIf t34 (¬ (calOk p.rs = true ∧ (1 ≤ p.pol ∧ p.pol ≤ 5) ∧ (0 ≤ p.win ∧ p.win ≤ 1000) ∧ (-1 ≤ p.last ∧ p.last ≤ 100000) ∧ tl ≤ 60)) ∧ Below (w.heap.size + 1) (w.alloc (.cells #[.slice ra rl rc, .int .i64 p.pol, .int .i64 p.win, .int .i64 p.last, .slice ga gl gc, .slice wa wl wk, .slice ta tl tc] 31)) wx)
  case first =>
    go_wp2_with fail
    refine (HK.out _ HBOX0.out).mono ?_
    rintro e w1 ⟨rfl, hb1⟩
    have hB1 := below_box hb1
    clear hb1
    have c1 := boxAt hB1 (i := 1) rfl
    have c2 := boxAt hB1 (i := 2) rfl
    have c3 := boxAt hB1 (i := 3) rfl
    have c6 := boxAt hB1 (i := 6) rfl
    have HB1 : Hid _ := hB1
    clear hB1
    by_cases p0 : calOk p.rs = true
    case neg =>
      have p0' : calOk p.rs = false := by simpa using p0
      have HF : Hid (¬ calOk p.rs = true) := p0
      rw [p0']
      clear p0 p0'
      go_wp2_with fail
      go_meet
      case rel => exact ⟨valIf_t (fun h => HF.out h.1), HB1.out⟩
    rw [p0]
    have P0 : Hid _ := p0
    clear p0
    by_cases p1 : 1 ≤ p.pol ∧ p.pol ≤ 5
    case neg =>
      go_wp2_with (go_at_call 43; first | (refine (HT.out _ _ _ _ (by assumption)).mono ?_; rintro e w' ⟨rfl, rfl⟩) | (refine (HN.out _ _ _ _ (by assumption)).mono ?_; rintro e w' ⟨rfl, rfl⟩))
      go_meet
      case rel => exact ⟨valIf_t (fun h => p1 h.2.1), HB1.out⟩
    by_cases p2 : 0 ≤ p.win ∧ p.win ≤ 1000
    case neg =>
      go_wp2_with (go_at_call 43; first | (refine (HT.out _ _ _ _ (by assumption)).mono ?_; rintro e w' ⟨rfl, rfl⟩) | (refine (HN.out _ _ _ _ (by assumption)).mono ?_; rintro e w' ⟨rfl, rfl⟩))
      go_meet
      case rel => exact ⟨valIf_t (fun h => p2 h.2.2.1), HB1.out⟩
    by_cases p3 : -1 ≤ p.last ∧ p.last ≤ 100000
    case neg =>
      go_wp2_with (go_at_call 43; first | (refine (HT.out _ _ _ _ (by assumption)).mono ?_; rintro e w' ⟨rfl, rfl⟩) | (refine (HN.out _ _ _ _ (by assumption)).mono ?_; rintro e w' ⟨rfl, rfl⟩))
      go_meet
      case rel => exact ⟨valIf_t (fun h => p3 h.2.2.2.1), HB1.out⟩
    by_cases p4 : tl ≤ 60
    · have hd : decide ((60 : Int) < (tl : Int)) = false := decide_eq_false (by omega)
      go_wp2_with (go_at_call 43; first | (refine (HT.out _ _ _ _ (by assumption)).mono ?_; rintro e w' ⟨rfl, rfl⟩) | (refine (HN.out _ _ _ _ (by assumption)).mono ?_; rintro e w' ⟨rfl, rfl⟩))
      go_meet
      case rel => exact ⟨valIf_f (fun h => h ⟨P0.out, p1, p2, p3, p4⟩), HB1.out⟩
    · have hd : decide ((60 : Int) < (tl : Int)) = true := decide_eq_true (by omega)
      go_wp2_with (go_at_call 43; first | (refine (HT.out _ _ _ _ (by assumption)).mono ?_; rintro e w' ⟨rfl, rfl⟩) | (refine (HN.out _ _ _ _ (by assumption)).mono ?_; rintro e w' ⟨rfl, rfl⟩))
      go_meet
      case rel => exact ⟨valIf_t (fun h => p4 h.2.2.2.2), HB1.out⟩
  case rest =>
    obtain ⟨⟨v1, rfl, hv1⟩, hB⟩ := hcut
    have c1 := boxAt hB (i := 1) rfl
    have HB : Hid _ := hB
    cases v1 with
    | true =>
      have HF : Hid (planOk p = false) := planOk_no fun h => hv1.1 rfl ⟨h.rules, h.pol, h.win, h.last, by have := h.told60; omega⟩
      clear hv1 hB c1
      go_wp2_with fail
      go_ret
      exact ⟨ret_bool HF.out.symm, unbox HB.out⟩
    | false =>
    have hP : calOk p.rs = true ∧ (1 ≤ p.pol ∧ p.pol ≤ 5) ∧ (0 ≤ p.win ∧ p.win ≤ 1000) ∧ (-1 ≤ p.last ∧ p.last ≤ 100000) ∧ tl ≤ 60 := Classical.byContradiction fun h => by have := hv1.2 h; cases this
    have P1 : Hid _ := hP
    have HTM : Hid (∀ a len cap l w', Below w.heap.size w w' → IsRow .i64 w' a len cap l → Calls Tryz.prog 45 #[.agg #[.slice ra rl rc, .int .i64 p.pol, .int .i64 p.win, .int .i64 p.last, .slice ga gl gc, .slice wa wl wk, .slice ta tl tc], .slice a len cap] w' fun e w'' => e = .returned (.bool (times p.rs p.last l)) ∧ Below w'.heap.size w' w'') := fun a len cap l w' hb hl => l42Times ra rl rc p.rs p.pol p.win p.last _ _ _ a len cap l w' (IsPla.below HP.out hb).1 (calOk_rules hP.1) hl
    have HDU : Hid (∀ t w', Below w.heap.size w w' → Calls Tryz.prog 46 #[.slice ra rl rc, .int .i64 t] w' fun e w'' => e = .returned (.bool (due p.rs t)) ∧ Below w'.heap.size w' w'') := fun t w' hb => l41Due ra rl rc p.rs t w' (IsPla.below HP.out hb).1 (calOk_rules hP.1)
    clear hv1 hP hB
    go_wp2_with fail
    refine (HM.out _).mono ?_
    rintro e w2 ⟨rfl, hw2⟩
    subst hw2
    clear c1
    obtain ⟨hg0, hg8⟩ := mostG_bd p.pol
    obtain ⟨hw0, hw8⟩ := mostW_bd p.pol
    generalize hmg : mostG p.pol = mg at hg0 hg8
    generalize hmw : mostW p.pol = mw at hw0 hw8
    have HMG : Hid _ := hmg
    have HMW : Hid _ := hmw
    clear hmg hmw HM HK
    go_upto_region 4 with fail
    go_cut [78] (fun t78 wx => ValIf t78 (¬ ((gl : Int) ≤ mg ∧ (wl : Int) ≤ mw ∧ times p.rs p.last p.goes = true ∧ times p.rs p.last p.waits = true ∧ (0 < wl → 0 < gl))) ∧ Below (w.heap.size + 1) (w.alloc (.cells #[.slice ra rl rc, .int .i64 p.pol, .int .i64 p.win, .int .i64 p.last, .slice ga gl gc, .slice wa wl wk, .slice ta tl tc] 31)) wx)
    case first =>
      have c0 := boxAt HB.out (i := 0) rfl
      have c1 := boxAt HB.out (i := 1) rfl
      have c2 := boxAt HB.out (i := 2) rfl
      have c3 := boxAt HB.out (i := 3) rfl
      have c4 := boxAt HB.out (i := 4) rfl
      have c5 := boxAt HB.out (i := 5) rfl
      have c6 := boxAt HB.out (i := 6) rfl
      by_cases q1 : (gl : Int) ≤ mg
      case neg =>
        have hd : decide (mg < (gl : Int)) = true := decide_eq_true (by omega)
        go_wp2_with fail
        go_meet
        case rel => exact ⟨valIf_t (fun h => by have := h.1; omega), HB.out⟩
      have hd1 : decide (mg < (gl : Int)) = false := decide_eq_false (by omega)
      by_cases q2 : (wl : Int) ≤ mw
      case neg =>
        have hd : decide (mw < (wl : Int)) = true := decide_eq_true (by omega)
        go_wp2_with fail
        go_meet
        case rel => exact ⟨valIf_t (fun h => by have := h.2.1; omega), HB.out⟩
      have hd2 : decide (mw < (wl : Int)) = false := decide_eq_false (by omega)
      go_wp2_with fail
      refine (HTM.out _ _ _ p.goes _ (unbox HB.out) (IsPla.below HP.out (unbox HB.out)).2.1).mono ?_
      rintro e w3 ⟨rfl, hb3⟩
      have hB3 := bcall HB.out (by have := HB.out.size; simpa using this) hb3
      clear hb3 c0 c1 c2 c3 c4 c5 c6
      have c0 := boxAt hB3 (i := 0) rfl
      have c1 := boxAt hB3 (i := 1) rfl
      have c2 := boxAt hB3 (i := 2) rfl
      have c3 := boxAt hB3 (i := 3) rfl
      have c4 := boxAt hB3 (i := 4) rfl
      have c5 := boxAt hB3 (i := 5) rfl
      have c6 := boxAt hB3 (i := 6) rfl
      have HB3 : Hid _ := hB3
      clear hB3
      by_cases q3 : times p.rs p.last p.goes = true
      case neg =>
        have q3' : times p.rs p.last p.goes = false := by simpa using q3
        rw [q3']
        have HF : Hid (¬ times p.rs p.last p.goes = true) := q3
        clear q3 q3'
        go_wp2_with fail
        go_meet
        case rel => exact ⟨valIf_t (fun h => HF.out h.2.2.1), HB3.out⟩
      rw [q3]
      have Q3 : Hid _ := q3
      clear q3
      go_wp2_with fail
      refine (HTM.out _ _ _ p.waits _ (unbox HB3.out) (IsPla.below HP.out (unbox HB3.out)).2.2.1).mono ?_
      rintro e w4 ⟨rfl, hb4⟩
      have hB4 := bcall HB3.out (by have := HB3.out.size; simpa using this) hb4
      clear hb4 c0 c1 c2 c3 c4 c5 c6
      have c4 := boxAt hB4 (i := 4) rfl
      have c5 := boxAt hB4 (i := 5) rfl
      have HB4 : Hid _ := hB4
      clear hB4
      by_cases q4 : times p.rs p.last p.waits = true
      case neg =>
        have q4' : times p.rs p.last p.waits = false := by simpa using q4
        rw [q4']
        have HF : Hid (¬ times p.rs p.last p.waits = true) := q4
        clear q4 q4'
        go_wp2_with fail
        go_meet
        case rel => exact ⟨valIf_t (fun h => HF.out h.2.2.2.1), HB4.out⟩
      rw [q4]
      have Q4 : Hid _ := q4
      clear q4
      by_cases q5 : 0 < wl
      · have hd5 : decide ((0 : Int) < (wl : Int)) = true := decide_eq_true (by omega)
        by_cases q6 : 0 < gl
        · have hd6 : ((gl : Int) == 0) = false := by simp; omega
          go_wp2_with fail
          go_meet
          case rel => exact ⟨valIf_f (fun h => h ⟨q1, q2, Q3.out, Q4.out, fun _ => q6⟩), HB4.out⟩
        · have hd6 : ((gl : Int) == 0) = true := by simp; omega
          go_wp2_with fail
          go_meet
          case rel => exact ⟨valIf_t (fun h => q6 (h.2.2.2.2 q5)), HB4.out⟩
      · have hd5 : decide ((0 : Int) < (wl : Int)) = false := decide_eq_false (by omega)
        go_wp2_with fail
        go_meet
        case rel => exact ⟨valIf_f (fun h => h ⟨q1, q2, Q3.out, Q4.out, fun h => absurd h q5⟩), HB4.out⟩
    case rest =>
      obtain ⟨⟨v2, rfl, hv2⟩, hB⟩ := hcut
      have c4 := boxAt hB (i := 4) rfl
      have c5 := boxAt hB (i := 5) rfl
      have HB2 : Hid _ := hB
      cases v2 with
      | true =>
        have HF : Hid (planOk p = false) := planOk_no fun h => hv2.1 rfl ⟨by have := h.goesN; rw [HMG.out, hgl] at this; exact this, by have := h.waitsN; rw [HMW.out, hwl] at this; exact this, h.goes, h.waits, fun h0 => by have := (h.behind (by omega)).1; omega⟩
        clear hv2 hB c4 c5 HB
        go_wp2_with fail
        go_ret
        exact ⟨ret_bool HF.out.symm, unbox HB2.out⟩
      | false =>
      have hP : (gl : Int) ≤ mg ∧ (wl : Int) ≤ mw ∧ times p.rs p.last p.goes = true ∧ times p.rs p.last p.waits = true ∧ (0 < wl → 0 < gl) := Classical.byContradiction fun h => by have := hv2.2 h; cases this
      obtain ⟨q1, q2, q3, q4, q5⟩ := hP
      have Q3 : Hid _ := q3
      have Q4 : Hid _ := q4
      have HGW : Hid ((gl : Int) ≤ mg ∧ (wl : Int) ≤ mw) := ⟨q1, q2⟩
      clear hv2 q3 q4 hB HB HTM q1 q2
      go_upto_region 6 with fail
      go_cut [97] (fun t97 wx => ValIf t97 (¬ WaitsOk p.goes p.waits) ∧ Below (w.heap.size + 1) (w.alloc (.cells #[.slice ra rl rc, .int .i64 p.pol, .int .i64 p.win, .int .i64 p.last, .slice ga gl gc, .slice wa wl wk, .slice ta tl tc] 31)) wx)
      case first =>
        by_cases q6 : 0 < wl
        · obtain ⟨j, hj⟩ : ∃ j, gl = j + 1 := ⟨gl - 1, by have := q5 q6; omega⟩
          obtain ⟨b1, off1, rfl, h1, h2, hc1⟩ := IsRow.at (IsPla.below HP.out (unbox HB2.out)).2.2.1 q6
          obtain ⟨b2, off2, rfl, h3, h4, hc2⟩ := IsRow.at (IsPla.below HP.out (unbox HB2.out)).2.1 (i := j) (by omega)
          rw [Nat.add_zero] at hc1
          have hd5' : (0 : Int) < (wl : Int) := by omega
          by_cases q8 : p.goes.getD j 0 < p.waits.getD 0 0
          · have HWO : Hid (WaitsOk p.goes p.waits) := fun _ => ⟨by omega, by rw [hgl, hj, Nat.add_sub_cancel]; exact q8⟩
            have hdl : decide (p.waits.getD 0 0 ≤ p.goes.getD j 0) = false := decide_eq_false (by omega)
            clear q8
            generalize p.waits.getD 0 0 = y at hc1 hdl
            generalize p.goes.getD j 0 = z at hc2 hdl
            subst hj
            go_wp2_with fail
            go_quiet (fail)
            go_wp2_with fail
            go_meet
            case rel => exact ⟨valIf_f (fun h => h HWO.out), below_drewN HB2.out _⟩
          · have HWO : Hid (¬ WaitsOk p.goes p.waits) := fun h => q8 (by have := (h (by omega)).2; rw [hgl, hj, Nat.add_sub_cancel] at this; exact this)
            have hdl : p.waits.getD 0 0 ≤ p.goes.getD j 0 := by omega
            clear q8
            generalize p.waits.getD 0 0 = y at hc1 hdl
            generalize p.goes.getD j 0 = z at hc2 hdl
            subst hj
            go_wp2_with fail
            go_quiet (fail)
            go_wp2_with fail
            go_meet
            case rel => exact ⟨valIf_t HWO.out, below_drewN HB2.out _⟩
        · have HWO : Hid (WaitsOk p.goes p.waits) := fun h => absurd h (by omega)
          have hd5 : decide ((0 : Int) < (wl : Int)) = false := decide_eq_false (by omega)
          go_wp2_with fail
          go_quiet (fail)
          go_wp2_with fail
          go_meet
          case rel => exact ⟨valIf_f (fun h => h HWO.out), below_drewN HB2.out _⟩
      case rest =>
        obtain ⟨⟨v3, rfl, hv3⟩, hB3⟩ := hcut
        have HB3 : Hid _ := hB3
        clear HB2 c4 c5 q5
        cases v3 with
        | true =>
          have HF : Hid (planOk p = false) := planOk_no fun h => hv3.1 rfl h.behind
          clear hv3 hB3
          go_wp2_with fail
          go_ret
          exact ⟨ret_bool HF.out.symm, unbox HB3.out⟩
        | false =>
        have HWO : Hid (WaitsOk p.goes p.waits) := Classical.byContradiction fun h => by have := hv3.2 h; cases this
        clear hv3 hB3
        go_wp2_with fail
        go_loopw [5] (fun i wr => ∃ k : Nat, k ≤ tl ∧ i = .int .i64 k ∧ (∀ i (h : i < p.told.length), i < k → ToldAt p.rs p.last p.told[i]) ∧ Below (w.heap.size + 1) (w.alloc (.cells #[.slice ra rl rc, .int .i64 p.pol, .int .i64 p.win, .int .i64 p.last, .slice ga gl gc, .slice wa wl wk, .slice ta tl tc] 31)) wr) (fun i _ => tl - (intOf i).toNat)
        case atStart => exact ⟨0, Nat.zero_le _, rfl, fun i _ h => by omega, HB3.out⟩
        case round =>
          obtain ⟨k, hk, rfl, hdone, hB⟩ := hrel
          have c6 := boxAt hB (i := 6) rfl
          have HB : Hid _ := hB
          have HDONE : Hid (∀ i (h : i < p.told.length), i < k → ToldAt p.rs p.last p.told[i]) := hdone
          clear hB hdone HB3
          by_cases hlt : k < tl
          · have hnb := fun o => HB.out.alloc (show w.heap.size + 1 ≤ wr.heap.size by have := HB.out.size; simpa using this) o
            have HNB : Hid _ := hnb
            clear hnb
            have hbk : w.heap.size < wr.heap.size := by have := HB.out.size; simp at this; omega
            obtain ⟨b1, off1, rfl, h1, h2, d0, d1, _⟩ := IsTlds.at (IsPla.below HP.out (unbox HB.out)).2.2.2 (i := k) (by omega)
            have c0 := boxAt HB.out (i := 0) rfl
            have c3 := boxAt HB.out (i := 3) rfl
            have hno : ∀ h : ¬ ToldAt p.rs p.last p.told[k], planOk p = false := fun h => planOk_no fun h2 => h (h2.told k (by omega))
            have HST : Hid (ToldAt p.rs p.last p.told[k] → ∀ i (h : i < p.told.length), i < k + 1 → ToldAt p.rs p.last p.told[i]) := fun ht i hi hik => by
              by_cases e : i = k
              · subst e; exact ht
              · exact HDONE.out i hi (by omega)
            by_cases p1 : 1 ≤ p.told[k].wh ∧ p.told[k].wh ≤ 5
            case neg =>
              have HF : Hid (planOk p = false) := hno fun h => p1 h.1
              clear hno
              generalize p.told[k] = t at d0 d1 p1
              go_wp2_with (go_at_call 43; first | (refine (HT.out _ _ _ _ (by assumption)).mono ?_; rintro e w' ⟨rfl, rfl⟩) | (refine (HN.out _ _ _ _ (by assumption)).mono ?_; rintro e w' ⟨rfl, rfl⟩))
              go_ret
              exact ⟨ret_bool HF.out.symm, unbox (HNB.out _)⟩
            by_cases p2 : p.told[k].tk ≤ p.last
            case neg =>
              have HF : Hid (planOk p = false) := hno fun h => p2 h.2.1
              have hd : p.last < p.told[k].tk := by omega
              clear hno p2
              generalize p.told[k] = t at d0 d1 p1 hd
              go_wp2_with (go_at_call 43; first | (refine (HT.out _ _ _ _ (by assumption)).mono ?_; rintro e w' ⟨rfl, rfl⟩) | (refine (HN.out _ _ _ _ (by assumption)).mono ?_; rintro e w' ⟨rfl, rfl⟩))
              go_ret
              exact ⟨ret_bool HF.out.symm, unbox (HNB.out _)⟩
            have hd : decide (p.last < p.told[k].tk) = false := decide_eq_false (by omega)
            by_cases p3 : due p.rs p.told[k].tk = true
            · have HTD : Hid (ToldAt p.rs p.last p.told[k]) := ⟨p1, p2, p3⟩
              have HDK : Hid (∀ w', Below w.heap.size w w' → Calls Tryz.prog 46 #[.slice ra rl rc, .int .i64 p.told[k].tk] w' fun e w'' => e = .returned (.bool true) ∧ Below w'.heap.size w' w'') := fun w' hb => by have := HDU.out p.told[k].tk w' hb; rwa [p3] at this
              clear hno p2 p3
              have HTD2 : Hid (∀ i (h : i < p.told.length), i < k + 1 → ToldAt p.rs p.last p.told[i]) := HST.out HTD.out
              clear HTD HST
              generalize p.told[k] = t at d0 d1 p1 hd HDK
              go_wp2_with (go_at_call 43; first | (refine (HT.out _ _ _ _ (by assumption)).mono ?_; rintro e w' ⟨rfl, rfl⟩) | (refine (HN.out _ _ _ _ (by assumption)).mono ?_; rintro e w' ⟨rfl, rfl⟩))
              refine (HDK.out _ (unbox (HNB.out _))).mono ?_
              rintro e w5 ⟨rfl, hb5⟩
              have HB5 : Hid _ := bcall (HNB.out _) (by have := HB.out.size; simp at this; simp; omega) hb5
              clear hb5
              go_wp2_with fail
              go_roundw
              case rel => exact ⟨k + 1, by omega, by go_num, HTD2.out, HB5.out⟩
              case measure => simp [intOf]; omega
            · have p3' : due p.rs p.told[k].tk = false := by simpa using p3
              have HF : Hid (planOk p = false) := hno fun h => p3 h.2.2
              have HDK : Hid (∀ w', Below w.heap.size w w' → Calls Tryz.prog 46 #[.slice ra rl rc, .int .i64 p.told[k].tk] w' fun e w'' => e = .returned (.bool false) ∧ Below w'.heap.size w' w'') := fun w' hb => by have := HDU.out p.told[k].tk w' hb; rwa [p3'] at this
              clear hno p2 p3 p3'
              generalize p.told[k] = t at d0 d1 p1 hd HDK
              go_wp2_with (go_at_call 43; first | (refine (HT.out _ _ _ _ (by assumption)).mono ?_; rintro e w' ⟨rfl, rfl⟩) | (refine (HN.out _ _ _ _ (by assumption)).mono ?_; rintro e w' ⟨rfl, rfl⟩))
              refine (HDK.out _ (unbox (HNB.out _))).mono ?_
              rintro e w5 ⟨rfl, hb5⟩
              have HB5 : Hid _ := bcall (HNB.out _) (by have := HB.out.size; simp at this; simp; omega) hb5
              clear hb5
              go_wp2_with fail
              go_ret
              exact ⟨ret_bool HF.out.symm, unbox HB5.out⟩
          · have HF : Hid (planOk p = true) := planOk_yes ⟨P1.out.1, P1.out.2.1, P1.out.2.2.1, P1.out.2.2.2.1, by have := P1.out.2.2.2.2; omega, by rw [HMG.out, hgl]; exact HGW.out.1, by rw [HMW.out, hwl]; exact HGW.out.2, Q3.out, Q4.out, HWO.out, fun i hi => HDONE.out i hi (by omega)⟩
            clear HDONE
            go_wp2_with fail
            go_ret
            exact ⟨ret_bool HF.out.symm, unbox HB.out⟩
end Pl
end Go.Proofs.YtghocdiddolinaaGreatDoor
