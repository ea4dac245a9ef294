/- The law of PlanBoard: what the program answers is what the model answers, and what was handed in reads as it did. -/
import Derived.Test.YtnieaeakaajleaaGreatDoorJ8
import Derived.Test.YtnieaeakaajleaaGreatDoorJ9
import Derived.Test.YtnieaeakaajleaaGreatDoorJ18
import Derived.Test.YtnieaeakaajleaaGreatDoorJ29
import Derived.Deep.RegionWith
namespace Go.Proofs.YtnieaeakaajleaaGreatDoor
set_option linter.unusedVariables false
set_option linter.unusedSimpArgs false
open Go.RowKit Go
namespace Pl

set_option maxHeartbeats 2000000 in
theorem lawPlanBoard (ra : Option Addr) (rl rc : Nat) (ga : Option Addr) (gl gc : Nat) (wa : Option Addr) (wl wk : Nat) (ta : Option Addr) (tl tc : Nat) (p : Pla) (w : World) (hp : IsPla w ra rl rc ga gl gc wa wl wk ta tl tc p) (hE : ErrT w) (hT : Tab w) :
    Calls Tryz.prog 5 #[.agg #[.slice ra rl rc, .int .i64 p.pol, .int .i64 p.win, .int .i64 p.last, .slice ga gl gc, .slice wa wl wk, .slice ta tl tc]] w fun e w' => e = .returned (.bool true) ∧ Below w.heap.size w w' := by
  have HP : Hid _ := hp
  have HE : Hid (ErrT w) := hE
  have HTB : Hid (Tab w) := hT
  clear hp hE hT
  have HSZ : Hid (∀ w', Below w.heap.size w w' → Calls Tryz.prog 6 #[.agg #[.slice ra rl rc, .int .i64 p.pol, .int .i64 p.win, .int .i64 p.last, .slice ga gl gc, .slice wa wl wk, .slice ta tl tc], .int .i64 1048576] w' fun e w'' => (∃ r : Int, e = .returned (.int .i64 r) ∧ -1 ≤ r ∧ r ≤ 1048576 ∧ (0 ≤ r → plaSmall p)) ∧ Below w'.heap.size w' w'') := fun w' hb => szPlan _ _ _ _ _ _ _ _ _ _ _ _ p w' (IsPla.below HP.out hb)
  have HTO : Hid (∀ w', plaSmall p → Below w.heap.size w w' → Calls Tryz.prog 8 #[.agg #[.slice ra rl rc, .int .i64 p.pol, .int .i64 p.win, .int .i64 p.last, .slice ga gl gc, .slice wa wl wk, .slice ta tl tc]] w' fun e w'' => (∃ b0 b1 b2 b3, e = .returned (.agg #[.slice (some ⟨b0, 0, none⟩) rl rl, .int .i64 p.pol, .int .i64 p.win, .int .i64 p.last, .slice (some ⟨b1, 0, none⟩) gl gl, .slice (some ⟨b2, 0, none⟩) wl wl, .slice (some ⟨b3, 0, none⟩) tl tl]) ∧ GathP w'' w'.heap.size (.slice (some ⟨b0, 0, none⟩) rl rl) (.slice (some ⟨b1, 0, none⟩) gl gl) (.slice (some ⟨b2, 0, none⟩) wl wl) (.slice (some ⟨b3, 0, none⟩) tl tl) p ∧ IsPla w'' (some ⟨b0, 0, none⟩) rl rl (some ⟨b1, 0, none⟩) gl gl (some ⟨b2, 0, none⟩) wl wl (some ⟨b3, 0, none⟩) tl tl p) ∧ Below w'.heap.size w' w'') := fun w' hs hb => toPlanP _ _ _ _ _ _ _ _ _ _ _ _ p w' (IsPla.below HP.out hb) hs
  have HS : Hid (∀ b0 b1 b2 b3 w', IsPla w' (some ⟨b0, 0, none⟩) rl rl (some ⟨b1, 0, none⟩) gl gl (some ⟨b2, 0, none⟩) wl wl (some ⟨b3, 0, none⟩) tl tl p → Calls Tryz.prog 18 #[.agg #[.slice (some ⟨b0, 0, none⟩) rl rl, .int .i64 p.pol, .int .i64 p.win, .int .i64 p.last, .slice (some ⟨b1, 0, none⟩) gl gl, .slice (some ⟨b2, 0, none⟩) wl wl, .slice (some ⟨b3, 0, none⟩) tl tl]] w' fun e w'' => e = .returned (.string (boardB p)) ∧ Below w'.heap.size w' w'') := fun b0 b1 b2 b3 w' h => specPlanBoard _ _ _ _ _ _ _ _ _ _ _ _ p w' h
  have HI : Hid (∀ b0 b1 b2 b3 w', Below w.heap.size w w' → IsPla w' (some ⟨b0, 0, none⟩) rl rl (some ⟨b1, 0, none⟩) gl gl (some ⟨b2, 0, none⟩) wl wl (some ⟨b3, 0, none⟩) tl tl p → Calls Tryz.prog 19 #[.agg #[.slice (some ⟨b0, 0, none⟩) rl rl, .int .i64 p.pol, .int .i64 p.win, .int .i64 p.last, .slice (some ⟨b1, 0, none⟩) gl gl, .slice (some ⟨b2, 0, none⟩) wl wl, .slice (some ⟨b3, 0, none⟩) tl tl]] w' fun e w'' => e = .returned (.string (boardB p)) ∧ Below w'.heap.size w' w'') := fun b0 b1 b2 b3 w' hb h => implPlanBoard _ _ _ _ _ _ _ _ _ _ _ _ p w' h (HE.out.below hb) (HTB.out.below hb)
  have HQ : Hid (∀ b0 b1 b2 b3 c0 c1 c2 c3 w', IsPla w' (some ⟨b0, 0, none⟩) rl rl (some ⟨b1, 0, none⟩) gl gl (some ⟨b2, 0, none⟩) wl wl (some ⟨b3, 0, none⟩) tl tl p → IsPla w' (some ⟨c0, 0, none⟩) rl rl (some ⟨c1, 0, none⟩) gl gl (some ⟨c2, 0, none⟩) wl wl (some ⟨c3, 0, none⟩) tl tl p → Calls Tryz.prog 10 #[.agg #[.slice (some ⟨b0, 0, none⟩) rl rl, .int .i64 p.pol, .int .i64 p.win, .int .i64 p.last, .slice (some ⟨b1, 0, none⟩) gl gl, .slice (some ⟨b2, 0, none⟩) wl wl, .slice (some ⟨b3, 0, none⟩) tl tl], .agg #[.slice (some ⟨c0, 0, none⟩) rl rl, .int .i64 p.pol, .int .i64 p.win, .int .i64 p.last, .slice (some ⟨c1, 0, none⟩) gl gl, .slice (some ⟨c2, 0, none⟩) wl wl, .slice (some ⟨c3, 0, none⟩) tl tl]] w' fun e w'' => e = .returned (.bool true) ∧ Below w'.heap.size w' w'') := fun b0 b1 b2 b3 c0 c1 c2 c3 w' h1 h2 => eqPlan _ _ _ _ _ _ _ _ _ _ _ _ _ _ _ _ _ _ _ _ p w' h1 h2
  have cells : ∀ W, Below (w.heap.size + 1) (w.alloc (.cells #[.slice ra rl rc, .int .i64 p.pol, .int .i64 p.win, .int .i64 p.last, .slice ga gl gc, .slice wa wl wk, .slice ta tl tc] 26)) W → PlaBox W w.heap.size ra rl rc p.pol p.win p.last (.slice ga gl gc) (.slice wa wl wk) (.slice ta tl tc) := fun W h => PlaBox.new h
  have CELLS : Hid _ := cells
  have hb0 : Below (w.heap.size + 1) (w.alloc (.cells #[.slice ra rl rc, .int .i64 p.pol, .int .i64 p.win, .int .i64 p.last, .slice ga gl gc, .slice wa wl wk, .slice ta tl tc] 26)) (w.alloc (.cells #[.slice ra rl rc, .int .i64 p.pol, .int .i64 p.win, .int .i64 p.last, .slice ga gl gc, .slice wa wl wk, .slice ta tl tc] 26)) := by simpa using Below.refl (w.heap.size + 1) (w.alloc (.cells #[.slice ra rl rc, .int .i64 p.pol, .int .i64 p.win, .int .i64 p.last, .slice ga gl gc, .slice wa wl wk, .slice ta tl tc] 26))
  have HB0 : Hid _ := hb0
  have HBC : Hid (∀ {W W' : World}, Below (w.heap.size + 1) (w.alloc (.cells #[.slice ra rl rc, .int .i64 p.pol, .int .i64 p.win, .int .i64 p.last, .slice ga gl gc, .slice wa wl wk, .slice ta tl tc] 26)) W → Below W.heap.size W W' → Below (w.heap.size + 1) (w.alloc (.cells #[.slice ra rl rc, .int .i64 p.pol, .int .i64 p.win, .int .i64 p.last, .slice ga gl gc, .slice wa wl wk, .slice ta tl tc] 26)) W') := fun {W W'} h1 h2 => bcall h1 (by have := h1.size; simpa using this) h2
  clear cells hb0
  generalize boardB p = BT at HS HI
  go_enter Tryz.func5, Tryz.ntmps5
  go_wp2_with fail
  refine (HSZ.out _ (unbox HB0.out)).mono ?_
  rintro e w1 ⟨⟨r, rfl, hr1, hr2, hr3⟩, hb1⟩
  have hB1 := HBC.out HB0.out hb1
  have HB1 : Hid _ := hB1
  clear hb1
  by_cases h0 : r < 0
  · go_wp2_with fail
    go_ret
    exact ⟨rfl, unbox HB1.out⟩
  · have HSM : Hid (plaSmall p) := hr3 (by omega)
    obtain ⟨c0, c1, c2, c3, c4, c5, c6⟩ := CELLS.out _ hB1
    clear hr3 hB1
    go_wp2_with fail
    refine (HTO.out _ HSM.out (unbox HB1.out)).mono ?_
    rintro e w2 ⟨⟨b0, b1, b2, b3, rfl, _, hn2⟩, hb2⟩
    have hB2 := HBC.out HB1.out hb2
    have HB2 : Hid _ := hB2
    have HN2 : Hid _ := hn2
    clear hb2 hn2 c0 c1 c2 c3 c4 c5 c6
    go_wp2_with fail
    refine (HS.out _ _ _ _ _ HN2.out).mono ?_
    rintro e w3 ⟨rfl, hb3⟩
    have hB3 := HBC.out HB2.out hb3
    have HB3 : Hid _ := hB3
    obtain ⟨c0, c1, c2, c3, c4, c5, c6⟩ := CELLS.out _ hB3
    clear hb3 hB2 hB3
    go_wp2_with fail
    refine (HTO.out _ HSM.out (unbox HB3.out)).mono ?_
    rintro e w4 ⟨⟨d0, d1, d2, d3, rfl, _, hn4⟩, hb4⟩
    have hB4 := HBC.out HB3.out hb4
    have HB4 : Hid _ := hB4
    have HN4 : Hid _ := hn4
    clear hb4 hn4 hB4 c0 c1 c2 c3 c4 c5 c6
    go_wp2_with fail
    have hb4a := HB4.out.alloc (show w.heap.size + 1 ≤ w4.heap.size by have := HB4.out.size; simpa using this) (.cells #[.slice (some ⟨d0, 0, none⟩) rl rl, .int .i64 p.pol, .int .i64 p.win, .int .i64 p.last, .slice (some ⟨d1, 0, none⟩) gl gl, .slice (some ⟨d2, 0, none⟩) wl wl, .slice (some ⟨d3, 0, none⟩) tl tl] 31)
    have HB4a : Hid _ := hb4a
    clear hb4a
    refine (HI.out _ _ _ _ _ (unbox HB4a.out) (IsPla.alloc HN4.out _)).mono ?_
    rintro e w5 ⟨rfl, hb5⟩
    have hB5 := HBC.out HB4a.out hb5
    have HB5 : Hid _ := hB5
    have hx5 := PlaBox.new (below_box hb5)
    have HN5 : Hid _ := IsPla.below (IsPla.alloc HN4.out (.cells #[.slice (some ⟨d0, 0, none⟩) rl rl, .int .i64 p.pol, .int .i64 p.win, .int .i64 p.last, .slice (some ⟨d1, 0, none⟩) gl gl, .slice (some ⟨d2, 0, none⟩) wl wl, .slice (some ⟨d3, 0, none⟩) tl tl] 31)) hb5
    have HX5 : Hid _ := hx5
    obtain ⟨c0, c1, c2, c3, c4, c5, c6⟩ := CELLS.out _ hB5
    obtain ⟨x0, x1, x2, x3, x4, x5, x6⟩ := hx5
    clear hb5 hB5
    have hlt5 : w4.heap.size < w5.heap.size := World.block_lt_of_cell? _ _ x0
    have HB5d : Hid _ := HB5.out.drew
    go_wp2_with fail
    go_region_with (first
      | (go_at_call 8; refine (HTO.out _ HSM.out (unbox HB5d.out)).mono ?_; rintro e w6 ⟨⟨f0, f1, f2, f3, rfl, _, hn6⟩, hb6⟩; have HB6 : Hid _ := HBC.out HB5d.out hb6; have HN6 : Hid _ := hn6; have HN5b : Hid _ := IsPla.below HN5.out (show Below w5.heap.size w5 w6 from undrewP hb6); have y0 := (hb6.cell (p := ⟨w4.heap.size, 0, none⟩) hlt5).trans x0; have y1 := (hb6.cell (p := ⟨w4.heap.size, 1, none⟩) hlt5).trans x1; have y2 := (hb6.cell (p := ⟨w4.heap.size, 2, none⟩) hlt5).trans x2; have y3 := (hb6.cell (p := ⟨w4.heap.size, 3, none⟩) hlt5).trans x3; have y4 := (hb6.cell (p := ⟨w4.heap.size, 4, none⟩) hlt5).trans x4; have y5 := (hb6.cell (p := ⟨w4.heap.size, 5, none⟩) hlt5).trans x5; have y6 := (hb6.cell (p := ⟨w4.heap.size, 6, none⟩) hlt5).trans x6; clear hb6 hn6)
      | (go_at_call 10; refine (HQ.out _ _ _ _ _ _ _ _ _ HN5b.out HN6.out).mono ?_; rintro e w7 ⟨rfl, hb7⟩; have HB7 : Hid _ := HBC.out HB6.out hb7; clear hb7))
    all_goals
      go_wp2_with fail
      go_ret
      exact ⟨rfl, unbox HB7.out⟩
end Pl
end Go.Proofs.YtnieaeakaajleaaGreatDoor
