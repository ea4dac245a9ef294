/- The law's comparison of numbers. -/
import Derived.Test.YtnieaeakaajleaaDoorB1
import Derived.WalkKit
import Derived.WalkSpells
import Derived.WalkLawsBesides
import Derived.Deep.OwnRows
namespace Go.Proofs.YtnieaeakaajleaaDoor
set_option linter.unusedVariables false
set_option linter.unusedSimpArgs false
open Go.RowKit Go

set_option maxHeartbeats 400000 in
theorem eqIntS (a b : Option Addr) (len cap cap2 : Nat) (zs : List Int) (w : World) (hr : IsRow .i64 w a len cap zs) (hr2 : IsRow .i64 w b len cap2 zs) :
    Calls Tryd.prog 21 #[.slice a len cap, .slice b len cap2] w fun e w' => e = .returned (.bool true) ∧ Below w.heap.size w w' := by
  have hm := hr.len.2
  unfold maxLen at hm
  have HR : Hid (IsRow .i64 w a len cap zs) := hr
  have HR2 : Hid (IsRow .i64 w b len cap2 zs) := hr2
  clear hr hr2
  go_enter Tryd.func21, Tryd.ntmps21
  go_wp2
  go_loopw [5] (fun i wr => ∃ q m : Nat, i = .int .i64 q ∧ q ≤ len ∧ wr = w.drewN m) (fun i _ => len - (intOf i).toNat)
  case atStart => exact ⟨0, 0, rfl, Nat.zero_le _, rfl⟩
  case round =>
    obtain ⟨q, m, rfl, hq, hwr⟩ := hrel
    subst hwr
    by_cases hlt : q < len
    · obtain ⟨b3, off3, rfl, _, _, hc3⟩ := IsRow.at HR.out hlt
      obtain ⟨b4, off4, rfl, _, _, hc4⟩ := IsRow.at HR2.out hlt
      go_wp2_with fail
      go_quiet (fail)
      go_wp2_with fail
      go_roundw
      case rel => exact ⟨q + 1, _, by go_num, by omega, rfl⟩
      case measure => simp [intOf]; omega
    · go_wp2_with fail
      go_ret
      exact ⟨rfl, below_drewN (Below.refl _ _) _⟩
end Go.Proofs.YtnieaeakaajleaaDoor
