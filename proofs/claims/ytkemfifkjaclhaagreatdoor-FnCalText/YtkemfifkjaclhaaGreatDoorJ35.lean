/- The laws' own comparisons of rules. -/
import Derived.Test.YtkemfifkjaclhaaGreatDoorJ3
import Derived.Lib.QuietBelow
import Derived.BigQuiet
import Derived.Deep.QuietTactic
import Derived.WalkKit
import Derived.WalkSpells
import Derived.WalkLawsBesides
import Derived.Deep.OwnRows
namespace Go.Proofs.YtkemfifkjaclhaaGreatDoor
set_option linter.unusedVariables false
set_option linter.unusedSimpArgs false
open Go.RowKit Go Go.Sort
namespace Wc

set_option maxHeartbeats 400000 in
theorem wcInts (a b : Option Addr) (len cap cap2 : Nat) (zs : List Int) (w : World) (hr : IsRow .i64 w a len cap zs) (hr2 : IsRow .i64 w b len cap2 zs) :
    Calls Tryz.prog 22 #[.slice a len cap, .slice b len cap2] w fun e w' => e = .returned (.bool true) ∧ Below w.heap.size w w' := by
  have hm := hr.len.2
  unfold maxLen at hm
  have HR : Hid (IsRow .i64 w a len cap zs) := hr
  have HR2 : Hid (IsRow .i64 w b len cap2 zs) := hr2
  clear hr hr2
  go_enter Tryz.func22, Tryz.ntmps22
  go_wp2
  go_loopw [5] (fun i wr => ∃ q m : Nat, i = .int .i64 q ∧ q ≤ len ∧ wr = w.drewN m) (fun i _ => len - (intOf i).toNat)
  case atStart => exact ⟨0, 0, rfl, Nat.zero_le _, rfl⟩
  case round =>
    obtain ⟨q, m, rfl, hq, hwr⟩ := hrel
    subst hwr
    by_cases hlt : q < len
    · obtain ⟨b3, off3, rfl, _, _, hc3⟩ := IsRow.at HR.out hlt
      obtain ⟨b4, off4, rfl, _, _, hc4⟩ := IsRow.at HR2.out hlt
      go_wp2_with fail
      go_quiet (fail)
      go_wp2_with fail
      go_roundw
      case rel => exact ⟨q + 1, _, by go_num, by omega, rfl⟩
      case measure => simp [intOf]; omega
    · go_wp2_with fail
      go_ret
      exact ⟨rfl, below_drewN (Below.refl _ _) _⟩

set_option maxRecDepth 4000 in
set_option maxHeartbeats 16000000 in
theorem wcRules (a b : Option Addr) (len cap cap2 : Nat) (rs : List Rul) (w : World) (hr : IsRuls w a len cap rs) (hr2 : IsRuls w b len cap2 rs) :
    Calls Tryz.prog 7 #[.slice a len cap, .slice b len cap2] w fun e w' => e = .returned (.bool true) ∧ Below w.heap.size w w' := by
  obtain ⟨hz, hm⟩ := IsRecs.len hr
  unfold maxLen at hm
  have HR : Hid (IsRuls w a len cap rs) := hr
  have HR2 : Hid (IsRuls w b len cap2 rs) := hr2
  clear hr hr2
  go_enter Tryz.func7, Tryz.ntmps7
  go_wp2
  go_loopw [5] (fun i wr => ∃ q : Nat, i = .int .i64 q ∧ q ≤ len ∧ Below w.heap.size w wr) (fun i _ => len - (intOf i).toNat)
  case atStart => exact ⟨0, rfl, Nat.zero_le _, Below.refl _ _⟩
  case round =>
    obtain ⟨q, rfl, hq, hb⟩ := hrel
    have HB : Hid (Below w.heap.size w wr) := hb
    clear hb
    by_cases hlt : q < len
    · obtain ⟨b1, off1, rfl, h1, hbl1, a1, l1, k1, c0, c1, c2, c3, c4, hrow1, _⟩ := IsRuls.at (IsRuls.below HR.out HB.out) (i := q) (by omega)
      obtain ⟨b2, off2, rfl, h2, hbl2, a2, l2, k2, d0, d1, d2, d3, d4, hrow2, _⟩ := IsRuls.at (IsRuls.below HR2.out HB.out) (i := q) (by omega)
      have e1 := hrow1.len
      have e2 := hrow2.len
      have e12 : l2 = l1 := by omega
      subst e12
      have CD : ∀ d os, Calls Tryz.prog 22 #[.slice a1 l2 k1, .slice a2 l2 k2] (grow (redrawn wr d) os) fun e w'' => e = .returned (.bool true) ∧ ∃ p : Regrown, w'' = grow (redrawn wr p.d) p.os := fun d os => Calls.regrown_of (wcInts a1 a2 l2 k1 k2 rs[q].but _ (hrow1.below (below_regrown wr d os)) (hrow2.below (below_regrown wr d os)))
      generalize rs[q].ev = z0 at c0 d0
      generalize rs[q].at_ = z1 at c1 d1
      generalize rs[q].fr = z2 at c2 d2
      generalize rs[q].to_ = z3 at c3 d3
      clear hrow1 hrow2 e1 e2
      have i0 := cell_regrown c0
      have i1 := cell_regrown c1
      have i2 := cell_regrown c2
      have i3 := cell_regrown c3
      have i4 := cell_regrown c4
      have j0 := cell_regrown d0
      have j1 := cell_regrown d1
      have j2 := cell_regrown d2
      have j3 := cell_regrown d3
      have j4 := cell_regrown d4
      clear c0 c1 c2 c3 c4 d0 d1 d2 d3 d4
      go_wp2_with fail
      refine wp_region_quiet_below (by kernel_rfl) (by kernel_rfl) ?_
      repeat (quiet_step (exact CD _ _))
      refine wpQuiet_nil ?_
      rintro _ ⟨⟨dq, osq⟩, rfl⟩
      have hB9 := below_regrown wr dq osq
      generalize grow (redrawn wr dq) osq = V at hB9 ⊢
      clear CD i0 i1 i2 i3 i4 j0 j1 j2 j3 j4
      go_wp2_with fail
      go_roundw
      case rel => exact ⟨q + 1, by go_num, by omega, bcall HB.out HB.out.size hB9⟩
      case measure => simp [intOf]; omega
    · go_wp2_with fail
      go_ret
      exact ⟨rfl, HB.out⟩
end Wc
end Go.Proofs.YtkemfifkjaclhaaGreatDoor
