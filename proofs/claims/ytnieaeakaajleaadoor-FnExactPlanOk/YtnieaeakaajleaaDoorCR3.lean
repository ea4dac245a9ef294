/- Comparing rules of calendars: alike when they read alike. -/
import Derived.Test.YtnieaeakaajleaaDoorB2q
import Derived.Test.YtnieaeakaajleaaDoorCR0
namespace Go.Proofs.YtnieaeakaajleaaDoor
set_option linter.unusedVariables false
set_option linter.unusedSimpArgs false
open Go.RowKit Go

set_option maxHeartbeats 400000 in
theorem eqCalRule (ev at_ fr to_ : Int) (a b : Option Addr) (len cap cap2 : Nat) (zs : List Int) (w : World) (hr : IsRow .i64 w a len cap zs) (hr2 : IsRow .i64 w b len cap2 zs) :
    Calls Tryd.prog 23 #[.agg #[.int .i64 ev, .int .i64 at_, .int .i64 fr, .int .i64 to_, .slice a len cap], .agg #[.int .i64 ev, .int .i64 at_, .int .i64 fr, .int .i64 to_, .slice b len cap2]] w fun e w' => e = .returned (.bool true) ∧ Below w.heap.size w w' := by
  have HE : Hid (∀ w, IsRow .i64 w a len cap zs → IsRow .i64 w b len cap2 zs → Calls Tryd.prog 21 #[.slice a len cap, .slice b len cap2] w fun e w' => e = .returned (.bool true) ∧ Below w.heap.size w w') := fun w h1 h2 => eqIntS a b len cap cap2 zs w h1 h2
  have HR : Hid (IsRow .i64 w a len cap zs) := hr
  have HR2 : Hid (IsRow .i64 w b len cap2 zs) := hr2
  clear hr hr2
  go_enter Tryd.func23, Tryd.ntmps23
  go_wp2_with fail
  refine (HE.out _ (by exact (IsRow.alloc HR.out _).alloc _) (by exact (IsRow.alloc HR2.out _).alloc _)).mono ?_
  rintro e w1 ⟨rfl, hb⟩
  go_wp2_with fail
  go_ret
  exact ⟨rfl, bcall (((Below.refl _ _).alloc (Nat.le_refl _) _).alloc (by simp) _) (by simp; omega) hb⟩

set_option maxHeartbeats 400000 in
theorem eqCalRuleS (a b : Option Addr) (len cap cap2 : Nat) (rs : List Rul) (w : World) (hr : IsRuls w a len cap rs) (hr2 : IsRuls w b len cap2 rs) :
    Calls Tryd.prog 10 #[.slice a len cap, .slice b len cap2] w fun e w' => e = .returned (.bool true) ∧ Below w.heap.size w w' := by
  obtain ⟨hz, hm⟩ := IsRecs.len hr
  unfold maxLen at hm
  have HR : Hid (IsRuls w a len cap rs) := hr
  have HR2 : Hid (IsRuls w b len cap2 rs) := hr2
  clear hr hr2
  go_enter Tryd.func10, Tryd.ntmps10
  go_wp2
  go_loopw [5] (fun i wr => ∃ q : Nat, i = .int .i64 q ∧ q ≤ len ∧ Below w.heap.size w wr) (fun i _ => len - (intOf i).toNat)
  case atStart => exact ⟨0, rfl, Nat.zero_le _, Below.refl _ _⟩
  case round =>
    obtain ⟨q, rfl, hq, hb⟩ := hrel
    by_cases hlt : q < len
    · obtain ⟨b1, off1, rfl, h1, hbl1, a1, l1, k1, c0, c1, c2, c3, c4, hrow1, _⟩ := IsRuls.at (IsRuls.below HR.out hb) (i := q) (by omega)
      obtain ⟨b2, off2, rfl, h2, hbl2, a2, l2, k2, d0, d1, d2, d3, d4, hrow2, _⟩ := IsRuls.at (IsRuls.below HR2.out hb) (i := q) (by omega)
      have e1 := hrow1.len
      have e2 := hrow2.len
      have e12 : l2 = l1 := by omega
      subst e12
      have HE : Hid (∀ w', Below wr.heap.size wr w' → Calls Tryd.prog 23 #[.agg #[.int .i64 rs[q].ev, .int .i64 rs[q].at_, .int .i64 rs[q].fr, .int .i64 rs[q].to_, .slice a1 l2 k1], .agg #[.int .i64 rs[q].ev, .int .i64 rs[q].at_, .int .i64 rs[q].fr, .int .i64 rs[q].to_, .slice a2 l2 k2]] w' fun e w'' => e = .returned (.bool true) ∧ Below w'.heap.size w' w'') :=
        fun w' hb' => eqCalRule _ _ _ _ a1 a2 l2 k1 k2 rs[q].but w' (hrow1.below hb') (hrow2.below hb')
      go_wp2_with fail
      go_region_with (go_at_call 23; refine (HE.out _ (by first | exact Below.refl _ _ | exact (Below.refl _ _).drew)).mono ?_; rintro e w1 ⟨rfl, hw1⟩)
      all_goals
        go_wp2_with fail
        go_roundw
        case rel => exact ⟨q + 1, by go_num, by omega, bcall hb.drew hb.size hw1⟩
        case measure => simp [intOf]; omega
    · go_wp2_with fail
      go_ret
      exact ⟨rfl, hb⟩
end Go.Proofs.YtnieaeakaajleaaDoor
