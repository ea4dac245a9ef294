/- The program's own policies. -/
import Derived.Test.YtnieaeakaajleaaDoorJ17
import Derived.Test.YtnieaeakaajleaaDoorJ11
import Derived.Test.YtnieaeakaajleaaDoorJ10
namespace Go.Proofs.YtnieaeakaajleaaDoor
set_option linter.unusedVariables false
set_option linter.unusedSimpArgs false
open Go.RowKit Go
namespace Pl

theorem told_bool {rs : List Rul} {last : Int} {t : Tld} (hok : calOk rs = true) {v : Bool} (h : v = true ↔ ToldAt rs last t) : v = (decide (1 ≤ t.wh ∧ t.wh ≤ 5) && (decide (t.tk ≤ last) && calDue rs t.tk)) := by
  have hd : calDue rs t.tk = due rs t.tk := by unfold calDue; rw [hok]; rfl
  rw [Bool.eq_iff_iff, h, hd]
  simp [ToldAt]

set_option maxHeartbeats 1000000 in
theorem toldOk (ra : Option Addr) (rl rc : Nat) (rs : List Rul) (pol win last : Int) (v4 v5 v6 : Value) (tk wh : Int) (w : World) (hr : IsRuls w ra rl rc rs) (hg : ErrT w) :
    Calls Tryd.prog 44 #[.agg #[.slice ra rl rc, .int .i64 pol, .int .i64 win, .int .i64 last, v4, v5, v6], .agg #[.int .i64 tk, .int .i64 wh]] w fun e w' => e = .returned (.bool (decide (1 ≤ wh ∧ wh ≤ 5) && (decide (tk ≤ last) && calDue rs tk))) ∧ Below w.heap.size w w' := by
  have HC : Hid (∀ w', Below w.heap.size w w' → Calls Tryd.prog 61 #[.agg #[.slice ra rl rc, .int .i64 pol, .int .i64 win, .int .i64 last, v4, v5, v6], .int .i64 tk] w' fun e w'' => e = .returned (.bool (decide (tk ≤ last) && calDue rs tk)) ∧ Below w'.heap.size w' w'') := fun w' hb => hasCome ra rl rc rs pol win last v4 v5 v6 tk w' (hr.below hb) (hg.below hb)
  clear hr hg
  generalize (decide (tk ≤ last) && calDue rs tk) = v at HC
  have hb0 : Below w.heap.size w ((w.alloc (.cells #[.slice ra rl rc, .int .i64 pol, .int .i64 win, .int .i64 last, v4, v5, v6] 28)).alloc (.cells #[.int .i64 tk, .int .i64 wh] 62)) := ((Below.refl _ _).alloc (Nat.le_refl _) _).alloc (by simp) _
  have HB0 : Hid _ := hb0
  clear hb0
  by_cases h : 1 ≤ wh ∧ wh ≤ 5
  · have HI : Hid (∀ w, Calls Tryd.prog 40 #[.int .i64 wh, .int .i64 1, .int .i64 5] w fun e w' => e = .returned (.bool true) ∧ w' = w) := fun w => isWithin_t wh 1 5 h w
    have HE : Hid (v = (decide (1 ≤ wh ∧ wh ≤ 5) && v)) := by rw [decide_eq_true h, Bool.true_and]; trivial
    clear h
    go_enter Tryd.func44, Tryd.ntmps44
    go_wp2_with (go_at_call 40; refine (HI.out _).mono ?_; rintro e w1 ⟨rfl, rfl⟩)
    refine (HC.out _ HB0.out).mono ?_
    rintro e w1 ⟨rfl, hb⟩
    have HB : Hid _ := bcall HB0.out HB0.out.size hb
    clear hb
    go_wp2_with fail
    go_ret
    exact ⟨ret_bool HE.out, HB.out⟩
  · have HI : Hid (∀ w, Calls Tryd.prog 40 #[.int .i64 wh, .int .i64 1, .int .i64 5] w fun e w' => e = .returned (.bool false) ∧ w' = w) := fun w => isWithin_f wh 1 5 h w
    have HE : Hid (false = (decide (1 ≤ wh ∧ wh ≤ 5) && v)) := by rw [decide_eq_false h, Bool.false_and]; trivial
    clear h
    go_enter Tryd.func44, Tryd.ntmps44
    go_wp2_with (go_at_call 40; refine (HI.out _).mono ?_; rintro e w1 ⟨rfl, rfl⟩)
    go_ret
    exact ⟨ret_bool HE.out, HB0.out⟩

set_option maxHeartbeats 1000000 in
theorem toldFn (pb : Nat) (ra : Option Addr) (rl rc : Nat) (rs : List Rul) (pol win last : Int) (v4 v5 v6 : Value) (tk wh : Int) (w : World) (hp : PlaBox w pb ra rl rc pol win last v4 v5 v6) (hr : IsRuls w ra rl rc rs) (hg : ErrT w) :
    Calls Tryd.prog 43 #[.agg #[.int .i64 tk, .int .i64 wh], .pointer (some ⟨pb, 0, none⟩)] w fun e w' => e = .returned (.bool (decide (1 ≤ wh ∧ wh ≤ 5) && (decide (tk ≤ last) && calDue rs tk))) ∧ Below w.heap.size w w' := by
  have HC : Hid (∀ w', Below w.heap.size w w' → Calls Tryd.prog 44 #[.agg #[.slice ra rl rc, .int .i64 pol, .int .i64 win, .int .i64 last, v4, v5, v6], .agg #[.int .i64 tk, .int .i64 wh]] w' fun e w'' => e = .returned (.bool (decide (1 ≤ wh ∧ wh ≤ 5) && (decide (tk ≤ last) && calDue rs tk))) ∧ Below w'.heap.size w' w'') := fun w' hb => toldOk ra rl rc rs pol win last v4 v5 v6 tk wh w' (hr.below hb) (hg.below hb)
  clear hr hg
  generalize (decide (1 ≤ wh ∧ wh ≤ 5) && (decide (tk ≤ last) && calDue rs tk)) = v at HC ⊢
  obtain ⟨c0, c1, c2, c3, c4, c5, c6⟩ := hp
  have hpb := World.block_lt_of_cell? _ _ c0
  simp only at hpb
  go_enter Tryd.func43, Tryd.ntmps43
  go_wp2_with fail
  refine (HC.out _ ((Below.refl _ _).alloc (Nat.le_refl _) _)).mono ?_
  rintro e w1 ⟨rfl, hb⟩
  have HB : Hid _ := unbox (below_box hb)
  clear hb
  go_wp2_with fail
  go_ret
  exact ⟨rfl, HB.out⟩

set_option maxHeartbeats 1000000 in
theorem allHoldTold (pb : Nat) (ra : Option Addr) (rl rc : Nat) (rs : List Rul) (pol win last : Int) (v4 v5 v6 : Value) (a : Option Addr) (len cap : Nat) (l : List Tld) (w : World) (hp : PlaBox w pb ra rl rc pol win last v4 v5 v6) (hr : IsRuls w ra rl rc rs) (hg : ErrT w) (hl : IsTlds w a len cap l) (hok : calOk rs = true) :
    Calls Tryd.prog 42 #[.slice a len cap, .func (.func 43) #[] #[.pointer (some ⟨pb, 0, none⟩)]] w fun e w' => SaysIf e (∀ i (h : i < l.length), ToldAt rs last l[i]) ∧ Below w.heap.size w w' := by
  obtain ⟨hz, hm⟩ := IsRecs.len hl
  unfold maxLen at hm
  have HL : Hid (IsTlds w a len cap l) := hl
  have HF : Hid (∀ tk wh w', Below w.heap.size w w' → Calls Tryd.prog 43 #[.agg #[.int .i64 tk, .int .i64 wh], .pointer (some ⟨pb, 0, none⟩)] w' fun e w'' => e = .returned (.bool (decide (1 ≤ wh ∧ wh ≤ 5) && (decide (tk ≤ last) && calDue rs tk))) ∧ Below w'.heap.size w' w'') := fun tk wh w' hb => toldFn pb ra rl rc rs pol win last v4 v5 v6 tk wh w' (hp.below hb) (hr.below hb) (hg.below hb)
  have HOK : Hid (calOk rs = true) := hok
  clear hl hp hr hg hok
  go_enter Tryd.func42, Tryd.ntmps42
  go_wp2
  go_loopw [9] (fun i wr => ∃ k : Nat, k ≤ len ∧ i = .int .i64 k ∧ (∀ i (h : i < l.length), i < k → ToldAt rs last l[i]) ∧ Below w.heap.size w wr) (fun i _ => len - (intOf i).toNat)
  case atStart => exact ⟨0, Nat.zero_le _, rfl, fun i _ h => by omega, Below.refl _ _⟩
  case round =>
    obtain ⟨k, hk, rfl, hn, hb⟩ := hrel
    have HN : Hid (∀ i (h : i < l.length), i < k → ToldAt rs last l[i]) := hn
    have HB : Hid _ := hb
    clear hn hb
    by_cases hlt : k < len
    · obtain ⟨b, off, rfl, h1, h2, d0, d1, _⟩ := IsTlds.at (HL.out.below HB.out) (i := k) (by omega)
      have hT := fun o => HF.out l[k].tk l[k].wh (wr.alloc o) (HB.out.alloc HB.out.size o)
      have hba := fun o => HB.out.alloc HB.out.size o
      have HBA : Hid _ := hba
      clear hba
      by_cases hin : ToldAt rs last l[k]
      · have HN1 : Hid (∀ i (h : i < l.length), i < k + 1 → ToldAt rs last l[i]) := fun i hi hik => by
          by_cases e : i = k
          · subst e; exact hin
          · exact HN.out i hi (by omega)
        have hv := told_bool HOK.out (v := true) (t := l[k]) (last := last) (by simp [hin])
        rw [← hv] at hT
        have HT : Hid _ := hT
        clear hin hT hv
        generalize l[k] = t at d0 d1 HT
        go_wp2_with fail
        refine (HT.out _).mono ?_
        rintro e w1 ⟨rfl, hb1⟩
        have HB1 : Hid _ := bcall (HBA.out _) (by have := HB.out.size; simp; omega) hb1
        clear hb1
        go_wp2_with fail
        go_roundw
        case rel => exact ⟨k + 1, by omega, by go_num, HN1.out, HB1.out⟩
        case measure => simp [intOf]; omega
      · have HFA : Hid (¬ ∀ i (h : i < l.length), ToldAt rs last l[i]) := fun h => hin (h k (by omega))
        have hv := told_bool HOK.out (v := false) (t := l[k]) (last := last) (by simp [hin])
        rw [← hv] at hT
        have HT : Hid _ := hT
        clear hin hT hv
        generalize l[k] = t at d0 d1 HT
        go_wp2_with fail
        refine (HT.out _).mono ?_
        rintro e w1 ⟨rfl, hb1⟩
        have HB1 : Hid _ := bcall (HBA.out _) (by have := HB.out.size; simp; omega) hb1
        clear hb1
        go_wp2_with fail
        go_ret
        exact ⟨⟨false, rfl, by simpa using HFA.out⟩, HB1.out⟩
    · have HFA : Hid (∀ i (h : i < l.length), ToldAt rs last l[i]) := fun i hi => HN.out i hi (by omega)
      clear HN
      go_wp2
      go_ret
      exact ⟨⟨true, rfl, by simpa using HFA.out⟩, HB.out⟩

set_option maxRecDepth 4000 in
set_option maxHeartbeats 2000000 in
theorem waitsBehind (v0 : Value) (pol win last : Int) (ga : Option Addr) (gl gc : Nat) (wa : Option Addr) (wl wk : Nat) (v6 : Value) (goes waits : List Int) (w : World) (hg : IsRow .i64 w ga gl gc goes) (hw : IsRow .i64 w wa wl wk waits) :
    Calls Tryd.prog 45 #[.agg #[v0, .int .i64 pol, .int .i64 win, .int .i64 last, .slice ga gl gc, .slice wa wl wk, v6]] w fun e w' => SaysIf e (WaitsOk goes waits) ∧ Below w.heap.size w w' := by
  obtain ⟨hgl, hgm⟩ := hg.len
  obtain ⟨hwl, hwm⟩ := hw.len
  unfold maxLen at hgm hwm
  have HB : Hid (∀ n, Below w.heap.size w ((w.alloc (.cells #[v0, .int .i64 pol, .int .i64 win, .int .i64 last, .slice ga gl gc, .slice wa wl wk, v6] 28)).drewN n)) := fun n => below_drewN ((Below.refl _ _).alloc (Nat.le_refl _) _) n
  have HB0 : Hid (Below w.heap.size w (w.alloc (.cells #[v0, .int .i64 pol, .int .i64 win, .int .i64 last, .slice ga gl gc, .slice wa wl wk, v6] 28))) := (Below.refl _ _).alloc (Nat.le_refl _) _
  by_cases q6 : 0 < wl
  case neg =>
    have HW : Hid (WaitsOk goes waits) := fun h => absurd h (by omega)
    have hd : ((wl : Int) == 0) = true := by simp; omega
    clear hg hw q6
    go_enter Tryd.func45, Tryd.ntmps45
    go_wp2_with fail
    go_ret
    exact ⟨⟨true, rfl, by simpa using HW.out⟩, HB0.out⟩
  have hd0 : ((wl : Int) == 0) = false := by simp; omega
  by_cases q7 : 0 < gl
  case neg =>
    have HW : Hid (¬ WaitsOk goes waits) := fun h => q7 (by have := (h (by omega)).1; omega)
    have hd : decide (0 < gl) = false := decide_eq_false (by omega)
    clear hg hw q7
    go_enter Tryd.func45, Tryd.ntmps45
    go_wp2_with fail
    go_quiet (fail)
    go_wp2_with fail
    go_ret
    exact ⟨⟨false, rfl, by simpa using HW.out⟩, HB.out _⟩
  obtain ⟨j, hj⟩ : ∃ j, gl = j + 1 := ⟨gl - 1, by omega⟩
  obtain ⟨b1, off1, rfl, h1, h2, hc1⟩ := IsRow.at hw q6
  obtain ⟨b2, off2, rfl, h3, h4, hc2⟩ := IsRow.at hg (i := j) (by omega)
  rw [Nat.add_zero] at hc1
  have hd5' : (0 : Int) < (wl : Int) := by omega
  by_cases q8 : goes.getD j 0 < waits.getD 0 0
  · have HWO : Hid (WaitsOk goes waits) := fun _ => ⟨by omega, by rw [hgl, hj, Nat.add_sub_cancel]; exact q8⟩
    have hdl : goes.getD j 0 < waits.getD 0 0 := q8
    clear q8 hg hw
    generalize waits.getD 0 0 = y at hc1 hdl
    generalize goes.getD j 0 = z at hc2 hdl
    subst hj
    go_enter Tryd.func45, Tryd.ntmps45
    go_wp2_with fail
    go_quiet (fail)
    go_wp2_with fail
    go_ret
    exact ⟨⟨true, rfl, by simpa using HWO.out⟩, HB.out _⟩
  · have HWO : Hid (¬ WaitsOk goes waits) := fun h => q8 (by have := (h (by omega)).2; rw [hgl, hj, Nat.add_sub_cancel] at this; exact this)
    have hdl : decide (goes.getD j 0 < waits.getD 0 0) = false := decide_eq_false q8
    clear q8 hg hw
    generalize waits.getD 0 0 = y at hc1 hdl
    generalize goes.getD j 0 = z at hc2 hdl
    subst hj
    go_enter Tryd.func45, Tryd.ntmps45
    go_wp2_with fail
    go_quiet (fail)
    go_wp2_with fail
    go_ret
    exact ⟨⟨false, rfl, by simpa using HWO.out⟩, HB.out _⟩
end Pl
end Go.Proofs.YtnieaeakaajleaaDoor

namespace Go.Proofs.YtnieaeakaajleaaDoor
set_option linter.unusedVariables false
set_option linter.unusedSimpArgs false
open Go.RowKit Go
namespace Pl

theorem skipGoes (w : World) : Calls Tryd.prog 97 #[.agg #[]] w fun e w' => e = .returned (.int .i64 1) ∧ Below w.heap.size w w' := by
  go_enter Tryd.func97, Tryd.ntmps97
  go_wp2
  go_ret
  exact ⟨rfl, (Below.refl _ _).alloc (Nat.le_refl _) _⟩
theorem skipWaits (w : World) : Calls Tryd.prog 98 #[.agg #[]] w fun e w' => e = .returned (.int .i64 0) ∧ Below w.heap.size w w' := by
  go_enter Tryd.func98, Tryd.ntmps98
  go_wp2
  go_ret
  exact ⟨rfl, (Below.refl _ _).alloc (Nat.le_refl _) _⟩
theorem bothGoes (w : World) : Calls Tryd.prog 100 #[.agg #[]] w fun e w' => e = .returned (.int .i64 8) ∧ Below w.heap.size w w' := by
  go_enter Tryd.func100, Tryd.ntmps100
  go_wp2
  go_ret
  exact ⟨rfl, (Below.refl _ _).alloc (Nat.le_refl _) _⟩
theorem waitWaits (m : Int) (w : World) : Calls Tryd.prog 99 #[.agg #[.int .i64 m]] w fun e w' => e = .returned (.int .i64 m) ∧ Below w.heap.size w w' := by
  go_enter Tryd.func99, Tryd.ntmps99
  go_wp2
  go_ret
  exact ⟨rfl, (Below.refl _ _).alloc (Nat.le_refl _) _⟩

/-- A method of a policy, asked for a number. -/
def PolM (D : TypeId) (pv : Value) (name : String) (n : Int) : Prop := ∃ f v, (∀ w, (method 268 D pv name).run Tryd.prog w = .ok (f, v) w) ∧ (∀ args w, (callFunc f args).run Tryd.prog w = .ok (.enter f args) w) ∧ ∀ w, Calls Tryd.prog f #[v] w fun e w' => e = .returned (.int .i64 n) ∧ Below w.heap.size w w'
/-- The policy of a number. -/
def PolIs (p : Int) (D : TypeId) (pv : Value) : Prop := PolM D pv "loop.example/dunlin/impl.mostGoes" (mostG p) ∧ PolM D pv "loop.example/dunlin/impl.mostWaits" (mostW p)
theorem same_below {P : Program} {f : FuncId} {args : Array Value} {w : World} {v : Value} (h : Calls P f args w fun e w' => e = .returned v ∧ w' = w) : Calls P f args w fun e w' => e = .returned v ∧ Below w.heap.size w w' := h.mono fun _ _ ⟨he, hw⟩ => ⟨he, by subst hw; exact Below.refl _ _⟩

theorem pol1 : PolIs 1 86 (.agg #[]) :=
  ⟨⟨97, .agg #[], fun w => by kernel_rfl, enters_of Tryd.func97 (by kernel_rfl) rfl, fun w => skipGoes w⟩,
   ⟨98, .agg #[], fun w => by kernel_rfl, enters_of Tryd.func98 (by kernel_rfl) rfl, fun w => skipWaits w⟩⟩
theorem pol2 : PolIs 2 88 (.agg #[.int .i64 1]) :=
  ⟨⟨97, .agg #[], fun w => by kernel_rfl, enters_of Tryd.func97 (by kernel_rfl) rfl, fun w => skipGoes w⟩,
   ⟨99, .agg #[.int .i64 1], fun w => by kernel_rfl, enters_of Tryd.func99 (by kernel_rfl) rfl, fun w => waitWaits 1 w⟩⟩
theorem pol3 : PolIs 3 88 (.agg #[.int .i64 8]) :=
  ⟨⟨97, .agg #[], fun w => by kernel_rfl, enters_of Tryd.func97 (by kernel_rfl) rfl, fun w => skipGoes w⟩,
   ⟨99, .agg #[.int .i64 8], fun w => by kernel_rfl, enters_of Tryd.func99 (by kernel_rfl) rfl, fun w => waitWaits 8 w⟩⟩
theorem pol4 : PolIs 4 90 (.agg #[]) :=
  ⟨⟨100, .agg #[], fun w => by kernel_rfl, enters_of Tryd.func100 (by kernel_rfl) rfl, fun w => bothGoes w⟩,
   ⟨98, .agg #[], fun w => by kernel_rfl, enters_of Tryd.func98 (by kernel_rfl) rfl, fun w => skipWaits w⟩⟩
theorem pol5 : PolIs 5 91 (.agg #[]) :=
  ⟨⟨97, .agg #[], fun w => by kernel_rfl, enters_of Tryd.func97 (by kernel_rfl) rfl, fun w => skipGoes w⟩,
   ⟨98, .agg #[], fun w => by kernel_rfl, enters_of Tryd.func98 (by kernel_rfl) rfl, fun w => skipWaits w⟩⟩

/-- The policy's own value. -/
def polT (p : Int) : TypeId := if p = 1 then 86 else if p = 2 then 88 else if p = 3 then 88 else if p = 4 then 90 else 91
def polV (p : Int) : Value := if p = 2 then .agg #[.int .i64 1] else if p = 3 then .agg #[.int .i64 8] else .agg #[]
theorem pol_is {p : Int} (h : 1 ≤ p ∧ p ≤ 5) : PolIs p (polT p) (polV p) := by
  rcases (by omega : p = 1 ∨ p = 2 ∨ p = 3 ∨ p = 4 ∨ p = 5) with rfl | rfl | rfl | rfl | rfl
  · exact pol1
  · exact pol2
  · exact pol3
  · exact pol4
  · exact pol5

set_option maxHeartbeats 1000000 in
theorem policyOf_yes (p : Int) (h : 1 ≤ p ∧ p ≤ 5) (w : World) : Calls Tryd.prog 38 #[.int .i64 p] w fun e w' => e = .returned (.tuple #[.iface (polT p) (polV p), .bool true]) ∧ Below w.heap.size w w' := by
  have HI : Hid (∀ w, Calls Tryd.prog 40 #[.int .i64 p, .int .i64 1, .int .i64 5] w fun e w' => e = .returned (.bool true) ∧ w' = w) := fun w => isWithin_t p 1 5 h w
  rcases (by omega : p = 1 ∨ p = 2 ∨ p = 3 ∨ p = 4 ∨ p = 5) with rfl | rfl | rfl | rfl | rfl
  all_goals
    go_enter Tryd.func38, Tryd.ntmps38
    go_wp2_with (go_at_call 40; refine (HI.out _).mono ?_; rintro e w1 ⟨rfl, rfl⟩)
    go_ret2
    exact ⟨rfl, (Below.refl _ _).alloc (Nat.le_refl _) _⟩
set_option maxHeartbeats 1000000 in
theorem policyOf_no (p : Int) (h : ¬ (1 ≤ p ∧ p ≤ 5)) (w : World) : Calls Tryd.prog 38 #[.int .i64 p] w fun e w' => e = .returned (.tuple #[.nilIface, .bool false]) ∧ Below w.heap.size w w' := by
  have HI : Hid (∀ w, Calls Tryd.prog 40 #[.int .i64 p, .int .i64 1, .int .i64 5] w fun e w' => e = .returned (.bool false) ∧ w' = w) := fun w => isWithin_f p 1 5 h w
  clear h
  go_enter Tryd.func38, Tryd.ntmps38
  go_wp2_with (go_at_call 40; refine (HI.out _).mono ?_; rintro e w1 ⟨rfl, rfl⟩)
  go_ret2
  exact ⟨rfl, (Below.refl _ _).alloc (Nat.le_refl _) _⟩
end Pl
end Go.Proofs.YtnieaeakaajleaaDoor
