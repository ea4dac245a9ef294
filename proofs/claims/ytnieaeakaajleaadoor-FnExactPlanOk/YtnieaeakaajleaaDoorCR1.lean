/- The law's sizes of rules of a calendar. -/
import Derived.Test.YtnieaeakaajleaaDoorB2
import Derived.Test.YtnieaeakaajleaaDoorCR0
namespace Go.Proofs.YtnieaeakaajleaaDoor
set_option linter.unusedVariables false
set_option linter.unusedSimpArgs false
open Go.RowKit Go

set_option maxHeartbeats 400000 in
theorem szCalRule (ev at_ fr to_ : Int) (a : Option Addr) (len cap : Nat) (left : Int) (hl : 0 ≤ left ∧ left ≤ 1048576) (hm : len ≤ 9223372036854775807) (w : World) :
    Calls Tryd.prog 18 #[.agg #[.int .i64 ev, .int .i64 at_, .int .i64 fr, .int .i64 to_, .slice a len cap], .int .i64 left] w fun e w' => (∃ r : Int, e = .returned (.int .i64 r) ∧ -1 ≤ r ∧ r ≤ 1048576 ∧ (0 ≤ r → len ≤ 1048576)) ∧ Below w.heap.size w w' := by
  have hs := szIntS a len cap left (by omega) hm
  have hb : (lessBy left len = -1) ∨ (0 ≤ lessBy left len ∧ lessBy left len ≤ 1048576 ∧ len ≤ 1048576) := by unfold lessBy; split <;> omega
  generalize lessBy left len = r at hs hb
  have hs : Hid _ := hs
  go_enter Tryd.func18, Tryd.ntmps18
  go_wp2_with (go_at_call 29; refine (hs.out _).mono ?_; rintro e w1 ⟨rfl, hw1⟩)
  all_goals go_ret
  · exact ⟨⟨_, rfl, by omega, by omega, by omega⟩, (bcall ((Below.refl _ _).alloc (Nat.le_refl _) _) (by simp) hw1)⟩
  · exact ⟨⟨_, rfl, by omega, by omega, by omega⟩, (bcall ((Below.refl _ _).alloc (Nat.le_refl _) _) (by simp) hw1)⟩

/-- Small enough, each. -/
def rulSmall (e : Rul) : Prop := e.but.length ≤ 1048576

set_option maxHeartbeats 400000 in
theorem szCalRuleS (a : Option Addr) (len cap : Nat) (rs : List Rul) (w : World) (hr : IsRuls w a len cap rs) :
    Calls Tryd.prog 5 #[.slice a len cap, .int .i64 1048576] w fun e w' => (∃ r : Int, e = .returned (.int .i64 r) ∧ -1 ≤ r ∧ r ≤ 1048576 ∧ (0 ≤ r → len ≤ 1048576 ∧ ∀ i (h : i < rs.length), rulSmall rs[i])) ∧ Below w.heap.size w w' := by
  obtain ⟨hz, hm⟩ := IsRecs.len hr
  unfold maxLen at hm
  have HR : Hid (IsRuls w a len cap rs) := hr
  clear hr
  go_enter Tryd.func5, Tryd.ntmps5
  by_cases h : (1048576 : Int) - len < 0
  · go_wp2
    go_ret
    exact ⟨⟨_, rfl, by omega, by omega, by omega⟩, Below.refl _ _⟩
  go_wp2
  go_loopw [1, 5] (fun lf i wr => ∃ (k : Nat) (f : Int), k ≤ len ∧ i = .int .i64 k ∧ lf = .int .i64 f ∧ 0 ≤ f ∧ f ≤ 1048576 ∧ (∀ i (h : i < rs.length), i < k → rulSmall rs[i]) ∧ Below w.heap.size w wr) (fun _ i _ => len - (intOf i).toNat)
  case atStart => exact ⟨0, _, Nat.zero_le _, rfl, rfl, by omega, by omega, fun i _ h => by omega, Below.refl _ _⟩
  case round =>
    obtain ⟨k, f, hk, rfl, rfl, hf0, hf1, hsm, hb⟩ := hrel
    by_cases hlt : k < len
    · obtain ⟨b, off, rfl, h1, hbl, a', l', c', c0, c1, c2, c3, c4, hrow, _⟩ := IsRuls.at (IsRuls.below HR.out hb) (i := k) (by omega)
      have hl := hrow.len
      have HS : Hid _ := szCalRule rs[k].ev rs[k].at_ rs[k].fr rs[k].to_ a' l' c' f ⟨hf0, hf1⟩ (by have := hl.2; unfold maxLen at this; omega)
      have hsk : ∀ r : Int, (0 ≤ r → l' ≤ 1048576) → 0 ≤ r → ∀ i (h : i < rs.length), i < k + 1 → rulSmall rs[i] := fun r hr h0 i hi hik => by
        by_cases e : i = k
        · subst e; unfold rulSmall; rw [hl.1]; exact hr h0
        · exact hsm i hi (by omega)
      clear hsm
      go_wp2_with (go_at_call 18; refine (HS.out _).mono ?_; rintro e w1 ⟨⟨r, rfl, hr1, hr2, hr3⟩, hw1⟩)
      · go_ret
        exact ⟨⟨_, rfl, by omega, by omega, by omega⟩, bcall hb hb.size hw1⟩
      · go_roundw
        case rel => exact ⟨k + 1, r, by omega, by go_num, rfl, by omega, hr2, hsk r hr3 (by omega), bcall hb hb.size hw1⟩
        case measure => simp [intOf]; omega
    · go_wp2
      go_ret
      exact ⟨⟨_, rfl, by omega, by omega, fun _ => ⟨by omega, fun i hi => hsm i hi (by omega)⟩⟩, hb⟩
end Go.Proofs.YtnieaeakaajleaaDoor
