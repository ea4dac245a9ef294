/- The program's own copies of plans; PlanNew. -/
import Derived.Test.YtnieaeakaajleaaDoorJ14
import Derived.Test.YtnieaeakaajleaaDoorJ15
import Derived.Test.YtnieaeakaajleaaDoorJ19
import Derived.Test.YtnieaeakaajleaaDoorJ23
namespace Go.Proofs.YtnieaeakaajleaaDoor
set_option linter.unusedVariables false
set_option linter.unusedSimpArgs false
open Go.RowKit Go
namespace Pl

set_option maxHeartbeats 2000000 in
theorem copyPlan (ra : Option Addr) (rl rc : Nat) (ga : Option Addr) (gl gc : Nat) (wa : Option Addr) (wl wk : Nat) (ta : Option Addr) (tl tc : Nat) (p : Pla) (w : World) (hp : IsPla w ra rl rc ga gl gc wa wl wk ta tl tc p) (hs : plaSmall p) :
    Calls Tryd.prog 20 #[.agg #[.slice ra rl rc, .int .i64 p.pol, .int .i64 p.win, .int .i64 p.last, .slice ga gl gc, .slice wa wl wk, .slice ta tl tc]] w fun e w' => (∃ v0 vs v4 v5 v6, e = .returned (.agg #[v0, .int .i64 p.pol, .int .i64 p.win, .int .i64 p.last, v4, v5, v6]) ∧ GathPV w' w.heap.size v0 vs v4 v5 v6 p) ∧ Below w.heap.size w w' := by
  have hr := (IsRecs.len hp.1).1
  have hg := (hp.2.1.len).1
  have hw := (hp.2.2.1.len).1
  have ht := (IsRecs.len hp.2.2.2).1
  obtain ⟨s1, s2, s3, s4, s5⟩ := hs
  have HP : Hid _ := hp
  clear hp
  have T1 : Hid (∀ w', Below w.heap.size w w' → Calls Tryd.prog 46 #[.slice ra rl rc, .func (.func 47) #[] #[]] w' fun e w'' => (∃ v vs, e = .returned v ∧ Cal.GathV w'' w'.heap.size v vs p.rs) ∧ Below w'.heap.size w' w'') := fun w' hb => copyRules _ _ _ p.rs w' (IsPla.below HP.out hb).1 (by omega) s2
  have T2 : Hid (∀ w', Below w.heap.size w w' → Calls Tryd.prog 48 #[.slice ga gl gc, .func (.func 49) #[] #[]] w' fun e w'' => (∃ v, e = .returned v ∧ w''.ownsRow w'.heap.size 3 1 v gl (p.goes.map (Value.int .i64))) ∧ Below w'.heap.size w' w'') := fun w' hb => copyInts _ _ _ p.goes w' (IsPla.below HP.out hb).2.1 (by omega)
  have T3 : Hid (∀ w', Below w.heap.size w w' → Calls Tryd.prog 48 #[.slice wa wl wk, .func (.func 49) #[] #[]] w' fun e w'' => (∃ v, e = .returned v ∧ w''.ownsRow w'.heap.size 3 1 v wl (p.waits.map (Value.int .i64))) ∧ Below w'.heap.size w' w'') := fun w' hb => copyInts _ _ _ p.waits w' (IsPla.below HP.out hb).2.2.1 (by omega)
  have T4 : Hid (∀ w', Below w.heap.size w w' → Calls Tryd.prog 50 #[.slice ta tl tc, .func (.func 51) #[] #[]] w' fun e w'' => (∃ v, e = .returned v ∧ w''.ownsRow w'.heap.size 62 2 v tl (flatT p.told)) ∧ Below w'.heap.size w' w'') := fun w' hb => copyTolds _ _ _ p.told w' (IsPla.below HP.out hb).2.2.2 (by omega)
  clear s2
  have hbx := boxes2_new w 28 28 #[.slice ra rl rc, .int .i64 p.pol, .int .i64 p.win, .int .i64 p.last, .slice ga gl gc, .slice wa wl wk, .slice ta tl tc] #[.slice none 0 0, .int .i64 0, .int .i64 0, .int .i64 0, .slice none 0 0, .slice none 0 0, .slice none 0 0]
  have HBX : Hid _ := hbx
  clear hbx
  have hbe : ∀ (i : Nat) (v : Value) (W : World), Below w.heap.size w W → Below w.heap.size w (W.setCell ⟨w.heap.size, i, none⟩ v) := fun i v W h => h.setCell (p := ⟨w.heap.size, i, none⟩) (Nat.le_refl _) v
  have HBE : Hid _ := hbe
  clear hbe
  go_enter Tryd.func20, Tryd.ntmps20
  go_wp2_with fail
  refine (T1.out _ (by first | exact ((Below.refl _ _).alloc (Nat.le_refl _) _).alloc (by simp) _)).mono ?_
  rintro e w1 ⟨⟨v0, vs, rfl, hn1⟩, hb1⟩
  obtain ⟨a0, k0, rfl⟩ := own_form hn1.2.1
  rw [hr] at hn1 ⊢
  have HX1 : Hid _ := HBX.out.1.below hb1
  have HY1 : Hid _ := HBX.out.2.below hb1
  have HLO : Hid (∀ i (hi : i < vs.length), ∀ b, vs[i].ownBlock = some b → b < w1.heap.size) := fun i hi b hb => (World.ownsRow.lt (hn1.2.2.1 i (by have := hn1.1; omega)).1 b hb).2
  have HN1 : Hid _ := gathV_base hn1 (base' := w.heap.size) (by simp; omega)
  have HB1 : Hid _ := bcall (((Below.refl w.heap.size w).alloc (Nat.le_refl _) _).alloc (by simp) _) (by simp; omega) hb1
  have hz1 : w.heap.size + 1 + 1 ≤ w1.heap.size := by have := hb1.size; simpa using this
  clear hn1 hb1
  obtain ⟨x0, x1, x2, x3, x4, x5, x6, xf⟩ := sevenOf HX1.out
  go_wp2_with fail
  obtain ⟨y1, z1⟩ := box_set HX1.out 0 (.slice a0 rl k0) rfl
  have yb := HBE.out 0 (.slice a0 rl k0) _ HB1.out
  refine (T2.out _ yb).mono ?_
  rintro e w2 ⟨⟨v4, rfl, hn2⟩, hb2⟩
  obtain ⟨a4, k4, rfl⟩ := own_form hn2
  have HX2 : Hid _ := y1.below hb2
  have HY2 : Hid _ := (holds_else HY1.out (M := w.heap.size) (by omega) 0 (.slice a0 rl k0)).below hb2
  have zz := z1.trans (SameP.below hb2)
  have HN1b : Hid _ := GathV_same HN1.out zz.toT
  have HL4 : Hid (∀ b, (Value.slice a4 gl k4).ownBlock = some b → w1.heap.size ≤ b ∧ b < w2.heap.size) := fun b hb => by have := World.ownsRow.lt hn2 b hb; simpa using this
  have HN2 : Hid _ := Cal.own_base hn2 (base' := w.heap.size) (by simp; omega)
  have HB2 : Hid _ := bcall yb (by have := HB1.out.size; simpa using this) hb2
  have hz2 : w1.heap.size ≤ w2.heap.size := by have := hb2.size; simpa using this
  clear y1 z1 yb hb2 hn2 zz x0 x1 x2 x3 x4 x5 x6 xf
  obtain ⟨x0, x1, x2, x3, x4, x5, x6, xf⟩ := sevenOf HX2.out
  go_wp2_with fail
  obtain ⟨y1, z1⟩ := box_set HX2.out 4 (.slice a4 gl k4) rfl
  have yb := HBE.out 4 (.slice a4 gl k4) _ HB2.out
  refine (T3.out _ yb).mono ?_
  rintro e w3 ⟨⟨v5, rfl, hn3⟩, hb3⟩
  obtain ⟨a5, k5, rfl⟩ := own_form hn3
  have HX3 : Hid _ := y1.below hb3
  have HY3 : Hid _ := (holds_else HY2.out (M := w.heap.size) (by omega) 4 (.slice a4 gl k4)).below hb3
  have zz := z1.trans (SameP.below hb3)
  have HN1c : Hid _ := GathV_same HN1b.out zz.toT
  have HN2c : Hid _ := own_same HN2.out zz (.inr (.inl rfl))
  have HL5 : Hid (∀ b, (Value.slice a5 wl k5).ownBlock = some b → w2.heap.size ≤ b) := fun b hb => by have := (World.ownsRow.lt hn3 b hb).1; simpa using this
  have HN3 : Hid _ := Cal.own_base hn3 (base' := w.heap.size) (by simp; omega)
  have HB3 : Hid _ := bcall yb (by have := HB2.out.size; simpa using this) hb3
  have hz3 : w2.heap.size ≤ w3.heap.size := by have := hb3.size; simpa using this
  clear y1 z1 yb hb3 hn3 zz x0 x1 x2 x3 x4 x5 x6 xf
  obtain ⟨x0, x1, x2, x3, x4, x5, x6, xf⟩ := sevenOf HX3.out
  go_wp2_with fail
  obtain ⟨y1, z1⟩ := box_set HX3.out 5 (.slice a5 wl k5) rfl
  have yb := HBE.out 5 (.slice a5 wl k5) _ HB3.out
  refine (T4.out _ yb).mono ?_
  rintro e w4 ⟨⟨v6, rfl, hn4⟩, hb4⟩
  obtain ⟨a6, k6, rfl⟩ := own_form hn4
  have HX4 : Hid _ := y1.below hb4
  have HY4 : Hid _ := (holds_else HY3.out (M := w.heap.size) (by omega) 5 (.slice a5 wl k5)).below hb4
  have zz := z1.trans (SameP.below hb4)
  have HN1d : Hid _ := GathV_same HN1c.out zz.toT
  have HN2d : Hid _ := own_same HN2c.out zz (.inr (.inl rfl))
  have HN3d : Hid _ := own_same HN3.out zz (.inr (.inl rfl))
  have HN4 : Hid _ := Cal.own_base hn4 (base' := w.heap.size) (by simp; omega)
  have HB4 : Hid _ := bcall yb (by have := HB3.out.size; simpa using this) hb4
  clear y1 z1 yb hb4 hn4 zz x0 x1 x2 x3 x4 x5 x6 xf
  obtain ⟨x0, x1, x2, x3, x4, x5, x6, xf⟩ := sevenOf HX4.out
  obtain ⟨b0, b1, b2, b3, b4, b5, b6, bf⟩ := sevenOf HY4.out
  go_wp2_with fail
  have fill : SameP w4 ((((((((w4.setCell ⟨w.heap.size, 6, none⟩ (.slice a6 tl k6)).setCell ⟨w.heap.size + 1, 0, none⟩ (.slice a0 rl k0)).setCell ⟨w.heap.size + 1, 1, none⟩ (.int .i64 p.pol)).setCell ⟨w.heap.size + 1, 2, none⟩ (.int .i64 p.win)).setCell ⟨w.heap.size + 1, 3, none⟩ (.int .i64 p.last)).setCell ⟨w.heap.size + 1, 4, none⟩ (.slice a4 gl k4)).setCell ⟨w.heap.size + 1, 5, none⟩ (.slice a5 wl k5)).setCell ⟨w.heap.size + 1, 6, none⟩ (.slice a6 tl k6)) := by
    obtain ⟨_, z⟩ := box_set HX4.out 6 (.slice a6 tl k6) rfl
    have y := holds_else HY4.out (M := w.heap.size) (by omega) 6 (.slice a6 tl k6)
    obtain ⟨y0, z0⟩ := box_set y 0 (.slice a0 rl k0) rfl
    obtain ⟨y1, z1⟩ := box_set y0 1 (.int .i64 p.pol) rfl
    obtain ⟨y2, z2⟩ := box_set y1 2 (.int .i64 p.win) rfl
    obtain ⟨y3, z3⟩ := box_set y2 3 (.int .i64 p.last) rfl
    obtain ⟨y4, z4⟩ := box_set y3 4 (.slice a4 gl k4) rfl
    obtain ⟨y5, z5⟩ := box_set y4 5 (.slice a5 wl k5) rfl
    obtain ⟨_, z6⟩ := box_set y5 6 (.slice a6 tl k6) rfl
    exact ((((((z.trans z0).trans z1).trans z2).trans z3).trans z4).trans z5).trans z6
  refine bodyPost_ret (v := .agg #[.slice a0 rl k0, .int .i64 p.pol, .int .i64 p.win, .int .i64 p.last, .slice a4 gl k4, .slice a5 wl k5, .slice a6 tl k6]) ?_ rfl ?_
  · simp [results, Tryd.results20, go_sem, b0, b1, b2, b3, b4, b5, b6]
  · refine ⟨⟨_, vs, _, _, _, rfl, GathPV.same ?_ fill⟩, ?_⟩
    · refine ⟨HN1d.out, ⟨?_, HP.out.2.1.wf⟩, ⟨?_, HP.out.2.2.1.wf⟩, ⟨?_, fun i hi => (IsTlds.at HP.out.2.2.2 hi).choose_spec.choose_spec.2.2.2.2.2⟩, fun b hb => ⟨fun hc => ?_, fun i hi hc => ?_⟩, fun b hb i hi hc => ?_⟩
      · rw [hg]; exact HN2d.out
      · rw [hw]; exact HN3d.out
      · rw [ht]; exact HN4.out
      · have k1 := HL4.out b hb; have k2 := HL5.out b hc; omega
      · have k1 := HL4.out b hb; have k2 := HLO.out i hi b hc; omega
      · have k1 := HL5.out b hb; have k2 := HLO.out i hi b hc; omega
    · have hq := HB4.out
      exact (((((((hq.setCell (by simp only; omega) _).setCell (by simp only; omega) _).setCell (by simp only; omega) _).setCell (by simp only; omega) _).setCell (by simp only; omega) _).setCell (by simp only; omega) _).setCell (by simp only; omega) _).setCell (by simp only; omega) _

theorem gathPV_base {w : World} {base base' : Nat} {v0 : Value} {vs : List Value} {v4 v5 v6 : Value} {p : Pla} (h : GathPV w base v0 vs v4 v5 v6 p) (hb : base' ≤ base) : GathPV w base' v0 vs v4 v5 v6 p := by
  obtain ⟨h1, h2, h3, h4, h5⟩ := h
  exact ⟨gathV_base h1 hb, ⟨Cal.own_base h2.1 hb, h2.2⟩, ⟨Cal.own_base h3.1 hb, h3.2⟩, ⟨Cal.own_base h4.1 hb, h4.2⟩, h5⟩
theorem gathPV_none (w : World) (base : Nat) : GathPV w base (.slice none 0 0) [] (.slice none 0 0) (.slice none 0 0) (.slice none 0 0) ⟨[], 0, 0, 0, [], [], []⟩ :=
  ⟨⟨rfl, World.ownsRow_nil _ _ _ _, fun i h => by simp at h, fun i j hi => by simp at hi⟩, ⟨World.ownsRow_nil _ _ _ _, fun n hn => by cases hn⟩, ⟨World.ownsRow_nil _ _ _ _, fun n hn => by cases hn⟩, ⟨World.ownsRow_nil _ _ _ _, fun i h => absurd h (Nat.not_lt_zero i)⟩, (fun b hb => by simp [Value.ownBlock] at hb), (fun b hb => by simp [Value.ownBlock] at hb)⟩
/-- Seven cells of a box are stored. -/
theorem fill7 {W : World} {N : Nat} {u0 u1 u2 u3 u4 u5 u6 : Value} (h : Holds W N 28 #[u0, u1, u2, u3, u4, u5, u6]) (v0 v1 v2 v3 v4 v5 v6 : Value) : SameP W (((((((W.setCell ⟨N, 0, none⟩ v0).setCell ⟨N, 1, none⟩ v1).setCell ⟨N, 2, none⟩ v2).setCell ⟨N, 3, none⟩ v3).setCell ⟨N, 4, none⟩ v4).setCell ⟨N, 5, none⟩ v5).setCell ⟨N, 6, none⟩ v6) := by
  obtain ⟨y0, z0⟩ := box_set h 0 v0 rfl
  obtain ⟨y1, z1⟩ := box_set y0 1 v1 rfl
  obtain ⟨y2, z2⟩ := box_set y1 2 v2 rfl
  obtain ⟨y3, z3⟩ := box_set y2 3 v3 rfl
  obtain ⟨y4, z4⟩ := box_set y3 4 v4 rfl
  obtain ⟨y5, z5⟩ := box_set y4 5 v5 rfl
  obtain ⟨_, z6⟩ := box_set y5 6 v6 rfl
  exact (((((z0.trans z1).trans z2).trans z3).trans z4).trans z5).trans z6
theorem below7 {B : Nat} {w W : World} {N : Nat} (h : Below B w W) (hN : B ≤ N) (v0 v1 v2 v3 v4 v5 v6 : Value) : Below B w (((((((W.setCell ⟨N, 0, none⟩ v0).setCell ⟨N, 1, none⟩ v1).setCell ⟨N, 2, none⟩ v2).setCell ⟨N, 3, none⟩ v3).setCell ⟨N, 4, none⟩ v4).setCell ⟨N, 5, none⟩ v5).setCell ⟨N, 6, none⟩ v6) :=
  ((((((h.setCell hN _).setCell hN _).setCell hN _).setCell hN _).setCell hN _).setCell hN _).setCell hN _

/-- What PlanNew answers. -/
noncomputable def newOk (rs : List Rul) (pol win from_ : Int) : Bool := planOk ⟨rs, pol, win, from_, [], [], []⟩
/-- A plan of nothing. -/
def noPla : Pla := ⟨[], 0, 0, 0, [], [], []⟩
/-- The plan that PlanNew answers. -/
noncomputable def newPla (rs : List Rul) (pol win from_ : Int) : Pla := if newOk rs pol win from_ = true then ⟨rs, pol, win, from_, [], [], []⟩ else noPla

set_option maxHeartbeats 2000000 in
theorem implPlanNew (ra : Option Addr) (rl rc : Nat) (rs : List Rul) (pol win from_ : Int) (w : World) (hr : IsRuls w ra rl rc rs) (hE : ErrT w) (hs1 : rl ≤ 1048576) (hs2 : ∀ i (h : i < rs.length), rulSmall rs[i]) :
    Calls Tryd.prog 8 #[.slice ra rl rc, .int .i64 pol, .int .i64 win, .int .i64 from_] w fun e w' => (∃ v0 vs v4 v5 v6, e = .returned (.tuple #[.agg #[v0, .int .i64 (newPla rs pol win from_).pol, .int .i64 (newPla rs pol win from_).win, .int .i64 (newPla rs pol win from_).last, v4, v5, v6], .bool (newOk rs pol win from_)]) ∧ GathPV w' w.heap.size v0 vs v4 v5 v6 (newPla rs pol win from_)) ∧ Below w.heap.size w w' := by
  have hz := (IsRecs.len hr).1
  have hIP : ∀ w', Below w.heap.size w w' → IsPla w' ra rl rc none 0 0 none 0 0 none 0 0 ⟨rs, pol, win, from_, [], [], []⟩ := fun w' hb => ⟨hr.below hb, ⟨rfl, Nat.le_refl _, Nat.zero_le _, fun h => absurd h (Nat.lt_irrefl _), fun n hn => by cases hn⟩, ⟨rfl, Nat.le_refl _, Nat.zero_le _, fun h => absurd h (Nat.lt_irrefl _), fun n hn => by cases hn⟩, ⟨rfl, Nat.le_refl _, Nat.zero_le _, fun h => absurd h (Nat.lt_irrefl _)⟩⟩
  have HK : Hid (∀ w', Below w.heap.size w w' → Calls Tryd.prog 17 #[.agg #[.slice ra rl rc, .int .i64 pol, .int .i64 win, .int .i64 from_, .slice none 0 0, .slice none 0 0, .slice none 0 0]] w' fun e w'' => e = .returned (.bool (newOk rs pol win from_)) ∧ Below w'.heap.size w' w'') := fun w' hb => implPlanOk ra rl rc none 0 0 none 0 0 none 0 0 ⟨rs, pol, win, from_, [], [], []⟩ w' (hIP w' hb) (hE.below hb)
  have HC : Hid (∀ w', Below w.heap.size w w' → Calls Tryd.prog 20 #[.agg #[.slice ra rl rc, .int .i64 pol, .int .i64 win, .int .i64 from_, .slice none 0 0, .slice none 0 0, .slice none 0 0]] w' fun e w'' => (∃ v0 vs v4 v5 v6, e = .returned (.agg #[v0, .int .i64 pol, .int .i64 win, .int .i64 from_, v4, v5, v6]) ∧ GathPV w'' w'.heap.size v0 vs v4 v5 v6 ⟨rs, pol, win, from_, [], [], []⟩) ∧ Below w'.heap.size w' w'') := fun w' hb => copyPlan ra rl rc none 0 0 none 0 0 none 0 0 ⟨rs, pol, win, from_, [], [], []⟩ w' (hIP w' hb) ⟨by simp only; omega, hs2, Nat.zero_le _, Nat.zero_le _, Nat.zero_le _⟩
  clear hIP hr hE
  by_cases hok : newOk rs pol win from_ = true
  · have HN : Hid (newPla rs pol win from_ = ⟨rs, pol, win, from_, [], [], []⟩) := by show newPla rs pol win from_ = _; unfold newPla; rw [if_pos hok]
    rw [HN.out, hok]
    rw [hok] at HK
    have hbx := boxes2_new w 28 28 #[.slice none 0 0, .int .i64 0, .int .i64 0, .int .i64 0, .slice none 0 0, .slice none 0 0, .slice none 0 0] #[.slice ra rl rc, .int .i64 pol, .int .i64 win, .int .i64 from_, .slice none 0 0, .slice none 0 0, .slice none 0 0]
    have HBX : Hid _ := hbx
    have HB0 : Hid _ := ((Below.refl w.heap.size w).alloc (Nat.le_refl _) (.cells #[.slice none 0 0, .int .i64 0, .int .i64 0, .int .i64 0, .slice none 0 0, .slice none 0 0, .slice none 0 0] 28)).alloc (by simp) (.cells #[.slice ra rl rc, .int .i64 pol, .int .i64 win, .int .i64 from_, .slice none 0 0, .slice none 0 0, .slice none 0 0] 28)
    clear hbx
    go_enter Tryd.func8, Tryd.ntmps8
    go_wp2_with fail
    refine (HK.out _ HB0.out).mono ?_
    rintro e w1 ⟨rfl, hb1⟩
    have HX1 : Hid _ := HBX.out.1.below hb1
    obtain ⟨x0, x1, x2, x3, x4, x5, x6, xf⟩ := sevenOf (HBX.out.2.below hb1)
    have HB1 : Hid _ := bcall HB0.out (by simp; omega) hb1
    clear hb1
    go_wp2_with fail
    refine (HC.out _ HB1.out).mono ?_
    rintro e w2 ⟨⟨v0, vs, v4, v5, v6, rfl, hG⟩, hb2⟩
    obtain ⟨a0, k0, rfl⟩ := own_form hG.1.2.1
    obtain ⟨a4, k4, rfl⟩ := own_form hG.2.1.1
    obtain ⟨a5, k5, rfl⟩ := own_form hG.2.2.1.1
    obtain ⟨a6, k6, rfl⟩ := own_form hG.2.2.2.1.1
    have hG2 := gathPV_base hG HB1.out.size
    have HG : Hid _ := hG2
    have HX2 : Hid _ := Holds.below HX1.out hb2
    have HB2 : Hid _ := bcall HB1.out HB1.out.size hb2
    simp only [List.length_nil, hz] at *
    clear hG hG2 hb2 x0 x1 x2 x3 x4 x5 x6 xf
    obtain ⟨b0, b1, b2, b3, b4, b5, b6, bf⟩ := sevenOf HX2.out
    go_wp2_with fail
    refine bodyPost_ret (v := .tuple #[.agg #[.slice a0 rl k0, .int .i64 pol, .int .i64 win, .int .i64 from_, .slice a4 0 k4, .slice a5 0 k5, .slice a6 0 k6], .bool true]) ?_ rfl ?_
    · simp [results, Tryd.results8, go_sem, b0, b1, b2, b3, b4, b5, b6]
    · exact ⟨⟨_, vs, _, _, _, rfl, GathPV.same HG.out (fill7 HX2.out _ _ _ _ _ _ _)⟩, below7 HB2.out (Nat.le_refl _) _ _ _ _ _ _ _⟩
  · have hok' : newOk rs pol win from_ = false := by simpa using hok
    have HN : Hid (newPla rs pol win from_ = ⟨[], 0, 0, 0, [], [], []⟩) := by show newPla rs pol win from_ = _; unfold newPla; rw [if_neg hok]; rfl
    rw [HN.out, hok']
    rw [hok'] at HK
    have HB0 : Hid _ := ((Below.refl w.heap.size w).alloc (Nat.le_refl _) (.cells #[.slice none 0 0, .int .i64 0, .int .i64 0, .int .i64 0, .slice none 0 0, .slice none 0 0, .slice none 0 0] 28)).alloc (by simp) (.cells #[.slice ra rl rc, .int .i64 pol, .int .i64 win, .int .i64 from_, .slice none 0 0, .slice none 0 0, .slice none 0 0] 28)
    have hbx := boxes2_new w 28 28 #[.slice none 0 0, .int .i64 0, .int .i64 0, .int .i64 0, .slice none 0 0, .slice none 0 0, .slice none 0 0] #[.slice ra rl rc, .int .i64 pol, .int .i64 win, .int .i64 from_, .slice none 0 0, .slice none 0 0, .slice none 0 0]
    have HBX : Hid _ := hbx
    clear hbx hok hok' HC
    go_enter Tryd.func8, Tryd.ntmps8
    go_wp2_with fail
    refine (HK.out _ HB0.out).mono ?_
    rintro e w1 ⟨rfl, hb1⟩
    obtain ⟨b0, b1, b2, b3, b4, b5, b6, bf⟩ := sevenOf (HBX.out.1.below hb1)
    have HB1 : Hid _ := bcall HB0.out (by simp; omega) hb1
    clear hb1
    go_wp2_with fail
    refine bodyPost_ret (v := .tuple #[.agg #[.slice none 0 0, .int .i64 0, .int .i64 0, .int .i64 0, .slice none 0 0, .slice none 0 0, .slice none 0 0], .bool false]) ?_ rfl ?_
    · simp [results, Tryd.results8, go_sem, b0, b1, b2, b3, b4, b5, b6]
    · exact ⟨⟨_, [], _, _, _, rfl, gathPV_none _ _⟩, below7 HB1.out (Nat.le_refl _) _ _ _ _ _ _ _⟩
end Pl
end Go.Proofs.YtnieaeakaajleaaDoor
