/- The program's own PlanOk. -/
import Derived.Test.YtghocdiddolinaaGreatDoorJ42
import Derived.Test.YtghocdiddolinaaGreatDoorJ31
import Derived.Lib.QuietBelow
import Derived.Deep.QuietTactic
namespace Go.Proofs.YtghocdiddolinaaGreatDoor
set_option linter.unusedVariables false
set_option linter.unusedSimpArgs false
open Go.RowKit Go Go.Sort
namespace Pl

set_option maxRecDepth 4000 in
set_option maxHeartbeats 4000000 in
theorem implPlanOk (ra : Option Addr) (rl rc : Nat) (ga : Option Addr) (gl gc : Nat) (wa : Option Addr) (wl wk : Nat) (ta : Option Addr) (tl tc : Nat) (p : Pla) (w : World) (hp : IsPla w ra rl rc ga gl gc wa wl wk ta tl tc p) (hg : ErrT w) :
    Calls Tryz.prog 50 #[.agg #[.slice ra rl rc, .int .i64 p.pol, .int .i64 p.win, .int .i64 p.last, .slice ga gl gc, .slice wa wl wk, .slice ta tl tc]] w fun e w' => e = .returned (.bool (planOk p)) ∧ Below w.heap.size w w' := by
  have hrl := (IsRecs.len hp.1).1
  obtain ⟨hgl, hgm⟩ := hp.2.1.len
  obtain ⟨hwl, hwm⟩ := hp.2.2.1.len
  obtain ⟨htl, htm⟩ := IsRecs.len hp.2.2.2
  unfold maxLen at hgm hwm htm
  have HP : Hid _ := hp
  have HG : Hid (ErrT w) := hg
  clear hp hg
  have HK : Hid (∀ w', Below w.heap.size w w' → Calls Tryz.prog 66 #[.slice ra rl rc] w' fun e w'' => e = .returned (.bool (calOk p.rs)) ∧ Below w'.heap.size w' w'') := fun w' hb => implCalOk _ _ _ p.rs w' (IsPla.below HP.out hb).1 (HG.out.below hb)
  have HT : Hid (∀ n lo hi w, lo ≤ n ∧ n ≤ hi → Calls Tryz.prog 67 #[.int .i64 n, .int .i64 lo, .int .i64 hi] w fun x w' => x = .returned (.bool true) ∧ w' = w) := fun n lo hi w h => isWithin_t n lo hi h w
  have HN : Hid (∀ n lo hi w, ¬ (lo ≤ n ∧ n ≤ hi) → Calls Tryz.prog 67 #[.int .i64 n, .int .i64 lo, .int .i64 hi] w fun x w' => x = .returned (.bool false) ∧ w' = w) := fun n lo hi w h => isWithin_f n lo hi h w
  have hbox0 : Below (w.heap.size + 1) (w.alloc (.cells #[.slice ra rl rc, .int .i64 p.pol, .int .i64 p.win, .int .i64 p.last, .slice ga gl gc, .slice wa wl wk, .slice ta tl tc] 31)) (w.alloc (.cells #[.slice ra rl rc, .int .i64 p.pol, .int .i64 p.win, .int .i64 p.last, .slice ga gl gc, .slice wa wl wk, .slice ta tl tc] 31)) := by simpa using Below.refl (w.heap.size + 1) (w.alloc (.cells #[.slice ra rl rc, .int .i64 p.pol, .int .i64 p.win, .int .i64 p.last, .slice ga gl gc, .slice wa wl wk, .slice ta tl tc] 31))
  have HBOX0 : Hid _ := hbox0
  clear hbox0
  by_cases p1 : 1 ≤ p.pol ∧ p.pol ≤ 5
  case neg =>
    have HF : Hid (planOk p = false) := planOk_no fun h => p1 h.pol
    have HPO : Hid (∀ w, Calls Tryz.prog 51 #[.int .i64 p.pol] w fun e w' => e = .returned (.tuple #[.nilIface, .bool false]) ∧ Below w.heap.size w w') := fun w => policyOf_no p.pol p1 w
    clear p1
    go_enter Tryz.func50, Tryz.ntmps50
    go_wp2_with fail
    refine (HPO.out _).mono ?_
    rintro e w1 ⟨rfl, hb1⟩
    have HB1 : Hid _ := unbox (below_box hb1)
    clear hb1
    go_wp2_with fail
    go_ret
    exact ⟨ret_bool HF.out.symm, HB1.out⟩
  have HPO : Hid (∀ w, Calls Tryz.prog 51 #[.int .i64 p.pol] w fun e w' => e = .returned (.tuple #[.iface (polT p.pol) (polV p.pol), .bool true]) ∧ Below w.heap.size w w') := fun w => policyOf_yes p.pol p1 w
  obtain ⟨⟨fG, vG, mG, eG, kG⟩, ⟨fW, vW, mW, eW, kW⟩⟩ := pol_is p1
  have P1 : Hid _ := p1
  clear p1
  obtain ⟨hg0, hg8⟩ := mostG_bd p.pol
  obtain ⟨hw0, hw8⟩ := mostW_bd p.pol
  generalize hmg : mostG p.pol = mg at hg0 hg8 kG
  generalize hmw : mostW p.pol = mw at hw0 hw8 kW
  generalize polT p.pol = D at HPO mG mW
  generalize polV p.pol = pv at HPO mG mW
  have HMG : Hid _ := hmg
  have HMW : Hid _ := hmw
  have KG : Hid _ := kG
  have KW : Hid _ := kW
  clear hmg hmw kG kW
  go_enter Tryz.func50, Tryz.ntmps50
  go_wp2_with fail
  refine (HPO.out _).mono ?_
  rintro e w1 ⟨rfl, hb1⟩
  have hB1 := below_box hb1
  have HB1 : Hid _ := hB1
  clear hb1 hB1 HPO
  go_upto_region 2 with fail
  go_cut [33] (fun t33 wx => ValIf t33 (¬ (calOk p.rs = true ∧ (0 ≤ p.win ∧ p.win ≤ 1000) ∧ (-1 ≤ p.last ∧ p.last ≤ 100000))) ∧ Below (w.heap.size + 1) (w.alloc (.cells #[.slice ra rl rc, .int .i64 p.pol, .int .i64 p.win, .int .i64 p.last, .slice ga gl gc, .slice wa wl wk, .slice ta tl tc] 31)) wx)
  case first =>
    have c0 := boxAt HB1.out (i := 0) rfl
    go_wp2_with fail
    refine (HK.out _ (unbox HB1.out)).mono ?_
    rintro e w2 ⟨rfl, hb2⟩
    have hB2 := bcall HB1.out (by have := HB1.out.size; simpa using this) hb2
    clear hb2 c0
    have c2 := boxAt hB2 (i := 2) rfl
    have c3 := boxAt hB2 (i := 3) rfl
    have HB2 : Hid _ := hB2
    clear hB2
    by_cases p0 : calOk p.rs = true
    case neg =>
      have p0' : calOk p.rs = false := by simpa using p0
      have HF : Hid (¬ calOk p.rs = true) := p0
      rw [p0']
      clear p0 p0'
      go_wp2_with fail
      go_meet
      case rel => exact ⟨valIf_t (fun h => HF.out h.1), HB2.out⟩
    rw [p0]
    have P0 : Hid _ := p0
    clear p0
    by_cases p2 : 0 ≤ p.win ∧ p.win ≤ 1000
    case neg =>
      go_wp2_with (go_at_call 67; first | (refine (HT.out _ _ _ _ (by assumption)).mono ?_; rintro e w' ⟨rfl, rfl⟩) | (refine (HN.out _ _ _ _ (by assumption)).mono ?_; rintro e w' ⟨rfl, rfl⟩))
      go_meet
      case rel => exact ⟨valIf_t (fun h => p2 h.2.1), HB2.out⟩
    by_cases p3 : -1 ≤ p.last ∧ p.last ≤ 100000
    · go_wp2_with (go_at_call 67; first | (refine (HT.out _ _ _ _ (by assumption)).mono ?_; rintro e w' ⟨rfl, rfl⟩) | (refine (HN.out _ _ _ _ (by assumption)).mono ?_; rintro e w' ⟨rfl, rfl⟩))
      go_meet
      case rel => exact ⟨valIf_f (fun h => h ⟨P0.out, p2, p3⟩), HB2.out⟩
    · go_wp2_with (go_at_call 67; first | (refine (HT.out _ _ _ _ (by assumption)).mono ?_; rintro e w' ⟨rfl, rfl⟩) | (refine (HN.out _ _ _ _ (by assumption)).mono ?_; rintro e w' ⟨rfl, rfl⟩))
      go_meet
      case rel => exact ⟨valIf_t (fun h => p3 h.2.2), HB2.out⟩
  case rest =>
    obtain ⟨⟨v1, rfl, hv1⟩, hB⟩ := hcut
    have HB : Hid _ := hB
    cases v1 with
    | true =>
      have HF : Hid (planOk p = false) := planOk_no fun h => hv1.1 rfl ⟨h.rules, h.win, h.last⟩
      clear hv1 hB
      go_wp2_with fail
      go_ret
      exact ⟨ret_bool HF.out.symm, unbox HB.out⟩
    | false =>
    have hP : calOk p.rs = true ∧ (0 ≤ p.win ∧ p.win ≤ 1000) ∧ (-1 ≤ p.last ∧ p.last ≤ 100000) := Classical.byContradiction fun h => by have := hv1.2 h; cases this
    have P2 : Hid _ := hP
    have HTM : Hid (∀ a len cap l w', Below w.heap.size w w' → IsRow .i64 w' a len cap l → Calls Tryz.prog 68 #[.agg #[.slice ra rl rc, .int .i64 p.pol, .int .i64 p.win, .int .i64 p.last, .slice ga gl gc, .slice wa wl wk, .slice ta tl tc], .slice a len cap] w' fun e w'' => e = .returned (.bool (times p.rs p.last l)) ∧ Below w'.heap.size w' w'') := fun a len cap l w' hb hl => timesOk ra rl rc p.rs p.pol p.win p.last _ _ _ a len cap l w' (IsPla.below HP.out hb).1 (HG.out.below hb) hl hP.1
    clear hv1 hP hB HK HB1
    go_upto_region 4 with fail
    go_cut [5] (fun t5 wx => ValIf t5 ((gl : Int) ≤ mg ∧ times p.rs p.last p.goes = true) ∧ Below (w.heap.size + 1) (w.alloc (.cells #[.slice ra rl rc, .int .i64 p.pol, .int .i64 p.win, .int .i64 p.last, .slice ga gl gc, .slice wa wl wk, .slice ta tl tc] 31)) wx)
    case first =>
      have c0 := cell_regrown (boxAt HB.out (i := 0) rfl)
      have c1 := cell_regrown (boxAt HB.out (i := 1) rfl)
      have c2 := cell_regrown (boxAt HB.out (i := 2) rfl)
      have c3 := cell_regrown (boxAt HB.out (i := 3) rfl)
      have c4 := cell_regrown (boxAt HB.out (i := 4) rfl)
      have c5 := cell_regrown (boxAt HB.out (i := 5) rfl)
      have c6 := cell_regrown (boxAt HB.out (i := 6) rfl)
      have CG := (fun W (_ : Below (w.heap.size + 1) _ W) d os => Calls.regrown_of (KG.out (grow (redrawn W d) os))) _ HB.out
      have CT := (fun W (h : Below (w.heap.size + 1) _ W) d os => Calls.regrown_of (HTM.out ga gl gc p.goes (grow (redrawn W d) os) ((unbox h).trans ((below_regrown W d os).mono (unbox h).size)) (IsPla.below HP.out ((unbox h).trans ((below_regrown W d os).mono (unbox h).size))).2.1)) _ HB.out
      have HBR := (fun W (h : Below (w.heap.size + 1) _ W) d os => h.trans ((below_regrown W d os).mono (by have := h.size; simpa using this))) _ HB.out
      have HBR : Hid _ := HBR
      by_cases q1 : (gl : Int) ≤ mg
      · generalize hv : times p.rs p.last p.goes = v at CT
        have HV : Hid _ := hv
        clear hv
        go_wp2_with fail
        refine wp_region_quiet_below (by kernel_rfl) (by kernel_rfl) ?_
        repeat (quiet_step (first | (go_at_call 68; exact CT _ _) | exact CG _ _))
        refine wpQuiet_nil ?_
        rintro _ ⟨⟨dq, osq⟩, rfl⟩
        go_wp2_with fail
        go_meet
        case rel => exact ⟨⟨v, rfl, by rw [← HV.out]; exact ⟨fun h => ⟨q1, h⟩, fun h => h.2⟩⟩, HBR.out _ _⟩
      · have hd : decide ((gl : Int) ≤ mg) = false := decide_eq_false q1
        go_wp2_with fail
        refine wp_region_quiet_below (by kernel_rfl) (by kernel_rfl) ?_
        repeat (quiet_step (first | (go_at_call 68; exact CT _ _) | exact CG _ _))
        refine wpQuiet_nil ?_
        rintro _ ⟨⟨dq, osq⟩, rfl⟩
        go_wp2_with fail
        go_meet
        case rel => exact ⟨valIf_f (fun h => by have := h.1; omega), HBR.out _ _⟩
    case rest =>
      obtain ⟨⟨v5, rfl, hv5⟩, hB5⟩ := hcut
      have HV5 : Hid _ := hv5
      have HB5 : Hid _ := hB5
      clear hv5 hB5 HB
      go_upto_region 5 with fail
      go_cut [6] (fun t6 wx => ValIf t6 ((wl : Int) ≤ mw ∧ times p.rs p.last p.waits = true) ∧ Below (w.heap.size + 1) (w.alloc (.cells #[.slice ra rl rc, .int .i64 p.pol, .int .i64 p.win, .int .i64 p.last, .slice ga gl gc, .slice wa wl wk, .slice ta tl tc] 31)) wx)
      case first =>
        have c0 := cell_regrown (boxAt HB5.out (i := 0) rfl)
        have c1 := cell_regrown (boxAt HB5.out (i := 1) rfl)
        have c2 := cell_regrown (boxAt HB5.out (i := 2) rfl)
        have c3 := cell_regrown (boxAt HB5.out (i := 3) rfl)
        have c4 := cell_regrown (boxAt HB5.out (i := 4) rfl)
        have c5 := cell_regrown (boxAt HB5.out (i := 5) rfl)
        have c6 := cell_regrown (boxAt HB5.out (i := 6) rfl)
        have CG := (fun W (_ : Below (w.heap.size + 1) _ W) d os => Calls.regrown_of (KW.out (grow (redrawn W d) os))) _ HB5.out
        have CT := (fun W (h : Below (w.heap.size + 1) _ W) d os => Calls.regrown_of (HTM.out wa wl wk p.waits (grow (redrawn W d) os) ((unbox h).trans ((below_regrown W d os).mono (unbox h).size)) (IsPla.below HP.out ((unbox h).trans ((below_regrown W d os).mono (unbox h).size))).2.2.1)) _ HB5.out
        have HBR := (fun W (h : Below (w.heap.size + 1) _ W) d os => h.trans ((below_regrown W d os).mono (by have := h.size; simpa using this))) _ HB5.out
        have HBR : Hid _ := HBR
        by_cases q1 : (wl : Int) ≤ mw
        · generalize hv : times p.rs p.last p.waits = v at CT
          have HV : Hid _ := hv
          clear hv
          go_wp2_with fail
          refine wp_region_quiet_below (by kernel_rfl) (by kernel_rfl) ?_
          repeat (quiet_step (first | (go_at_call 68; exact CT _ _) | exact CG _ _))
          refine wpQuiet_nil ?_
          rintro _ ⟨⟨dq, osq⟩, rfl⟩
          go_wp2_with fail
          go_meet
          case rel => exact ⟨⟨v, rfl, by rw [← HV.out]; exact ⟨fun h => ⟨q1, h⟩, fun h => h.2⟩⟩, HBR.out _ _⟩
        · have hd : decide ((wl : Int) ≤ mw) = false := decide_eq_false q1
          go_wp2_with fail
          refine wp_region_quiet_below (by kernel_rfl) (by kernel_rfl) ?_
          repeat (quiet_step (first | (go_at_call 68; exact CT _ _) | exact CG _ _))
          refine wpQuiet_nil ?_
          rintro _ ⟨⟨dq, osq⟩, rfl⟩
          go_wp2_with fail
          go_meet
          case rel => exact ⟨valIf_f (fun h => by have := h.1; omega), HBR.out _ _⟩
      case rest =>
        obtain ⟨⟨v6, rfl, hv6⟩, hB6⟩ := hcut
        have HV6 : Hid _ := hv6
        have HB6 : Hid _ := hB6
        have HOK : Hid (calOk p.rs = true) := P2.out.1
        clear hv6 hB6 HB5 HTM
        go_upto_region 6 with fail
        go_cut [7] (fun t7 wx => ValIf t7 (tl ≤ 60 ∧ ∀ i (h : i < p.told.length), ToldAt p.rs p.last p.told[i]) ∧ Below (w.heap.size + 1) (w.alloc (.cells #[.slice ra rl rc, .int .i64 p.pol, .int .i64 p.win, .int .i64 p.last, .slice ga gl gc, .slice wa wl wk, .slice ta tl tc] 31)) wx)
        case first =>
          have c6 := boxAt HB6.out (i := 6) rfl
          by_cases q1 : tl ≤ 60
          · have HA := allHoldTold w.heap.size ra rl rc p.rs p.pol p.win p.last _ _ _ ta tl tc p.told _ (PlaBox.new HB6.out) (IsPla.below HP.out (unbox HB6.out)).1 (HG.out.below (unbox HB6.out)) (IsPla.below HP.out (unbox HB6.out)).2.2.2 HOK.out
            have HA : Hid _ := HA
            have q1' : (tl : Int) ≤ 60 := by omega
            have hmf : ∀ (fn : Fn) (first cap : Array Value) (w : World), (Instr.makeFunc fn first cap).run Tryz.prog w = .ok (.func fn first cap) w := fun _ _ _ _ => rfl
            go_wp2_with fail
            refine Calls.mono HA.out ?_
            rintro e w2 ⟨⟨v, rfl, hv⟩, hb2⟩
            have HV : Hid _ := hv
            have HB7 : Hid _ := bcall HB6.out (by have := HB6.out.size; simpa using this) hb2
            clear hv hb2 hmf
            go_wp2_with fail
            go_meet
            case rel => exact ⟨⟨v, rfl, ⟨fun h => ⟨q1, HV.out.1 h⟩, fun h => HV.out.2 h.2⟩⟩, HB7.out⟩
          · have hd : decide ((tl : Int) ≤ 60) = false := decide_eq_false (by omega)
            go_wp2_with fail
            go_meet
            case rel => exact ⟨valIf_f (fun h => by have := h.1; omega), HB6.out⟩
        case rest =>
          obtain ⟨⟨v7, rfl, hv7⟩, hB7⟩ := hcut
          have HV7 : Hid _ := hv7
          have HB7 : Hid _ := hB7
          have HF : Hid (∀ v8 : Bool, (v8 = true ↔ WaitsOk p.goes p.waits) → planOk p = (v5 && v6 && v7 && v8)) := fun v8 hv8 => by
            by_cases h : PlanOk p
            · rw [planOk_yes h]
              have e1 : v5 = true := HV5.out.2 ⟨by have := h.goesN; rw [HMG.out, hgl] at this; exact this, h.goes⟩
              have e2 : v6 = true := HV6.out.2 ⟨by have := h.waitsN; rw [HMW.out, hwl] at this; exact this, h.waits⟩
              have e3 : v7 = true := HV7.out.2 ⟨by have := h.told60; omega, h.told⟩
              have e4 : v8 = true := hv8.2 h.behind
              rw [e1, e2, e3, e4]; rfl
            · rw [planOk_no h]
              cases hx : (v5 && v6 && v7 && v8) with
              | false => rfl
              | true =>
                simp only [Bool.and_eq_true] at hx
                obtain ⟨h1, h2⟩ := HV5.out.1 hx.1.1.1
                obtain ⟨h3, h4⟩ := HV6.out.1 hx.1.1.2
                obtain ⟨h5, h6⟩ := HV7.out.1 hx.1.2
                exact absurd ⟨P2.out.1, P1.out, P2.out.2.1, P2.out.2.2, by omega, by rw [HMG.out, hgl]; exact h1, by rw [HMW.out, hwl]; exact h3, h2, h4, hv8.1 hx.2, h6⟩ h
          have HF0 : Hid ((v5 && v6 && v7) = false → planOk p = false) := fun h => by
            by_cases hw : WaitsOk p.goes p.waits
            · rw [HF.out true (by simp [hw]), h]; rfl
            · rw [HF.out false (by simp [hw]), h]; rfl
          clear hv7 hB7 HV5 HV6 HV7 HB6 HMG HMW
          cases v5 with
          | false =>
            have HE : Hid (planOk p = false) := HF0.out rfl
            cases v6 <;> cases v7
            all_goals
              go_wp2_with fail
              go_ret
              exact ⟨ret_bool HE.out.symm, unbox HB7.out⟩
          | true =>
          cases v6 with
          | false =>
            have HE : Hid (planOk p = false) := HF0.out rfl
            cases v7
            all_goals
              go_wp2_with fail
              go_ret
              exact ⟨ret_bool HE.out.symm, unbox HB7.out⟩
          | true =>
          cases v7 with
          | false =>
            have HE : Hid (planOk p = false) := HF0.out rfl
            go_wp2_with fail
            go_ret
            exact ⟨ret_bool HE.out.symm, unbox HB7.out⟩
          | true =>
            have c0 := boxAt HB7.out (i := 0) rfl
            have c1 := boxAt HB7.out (i := 1) rfl
            have c2 := boxAt HB7.out (i := 2) rfl
            have c3 := boxAt HB7.out (i := 3) rfl
            have c4 := boxAt HB7.out (i := 4) rfl
            have c5 := boxAt HB7.out (i := 5) rfl
            have c6 := boxAt HB7.out (i := 6) rfl
            have HA := waitsBehind (.slice ra rl rc) p.pol p.win p.last ga gl gc wa wl wk (.slice ta tl tc) p.goes p.waits _ (IsPla.below HP.out (unbox HB7.out)).2.1 (IsPla.below HP.out (unbox HB7.out)).2.2.1
            have HA : Hid _ := HA
            go_wp2_with fail
            refine Calls.mono HA.out ?_
            rintro e w2 ⟨⟨v, rfl, hv⟩, hb2⟩
            have HE : Hid (planOk p = v) := HF.out v hv
            have HB8 : Hid _ := bcall HB7.out (by have := HB7.out.size; simpa using this) hb2
            clear hv hb2 c0 c1 c2 c3 c4 c5 c6
            go_wp2_with fail
            go_ret
            exact ⟨ret_bool HE.out.symm, unbox HB8.out⟩
end Pl
end Go.Proofs.YtghocdiddolinaaGreatDoor
