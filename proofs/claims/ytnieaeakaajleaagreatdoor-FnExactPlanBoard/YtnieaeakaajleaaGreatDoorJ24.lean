/- The program's own policies. -/
import Derived.Test.YtnieaeakaajleaaGreatDoorJ15
import Derived.Test.YtnieaeakaajleaaGreatDoorJ14
namespace Go.Proofs.YtnieaeakaajleaaGreatDoor
set_option linter.unusedVariables false
set_option linter.unusedSimpArgs false
open Go.RowKit Go
namespace Pl

theorem skipGoes (w : World) : Calls Tryz.prog 160 #[.agg #[]] w fun e w' => e = .returned (.int .i64 1) ∧ Below w.heap.size w w' := by
  go_enter Tryz.func160, Tryz.ntmps160
  go_wp2
  go_ret
  exact ⟨rfl, (Below.refl _ _).alloc (Nat.le_refl _) _⟩
theorem skipWaits (w : World) : Calls Tryz.prog 161 #[.agg #[]] w fun e w' => e = .returned (.int .i64 0) ∧ Below w.heap.size w w' := by
  go_enter Tryz.func161, Tryz.ntmps161
  go_wp2
  go_ret
  exact ⟨rfl, (Below.refl _ _).alloc (Nat.le_refl _) _⟩
theorem bothGoes (w : World) : Calls Tryz.prog 163 #[.agg #[]] w fun e w' => e = .returned (.int .i64 8) ∧ Below w.heap.size w w' := by
  go_enter Tryz.func163, Tryz.ntmps163
  go_wp2
  go_ret
  exact ⟨rfl, (Below.refl _ _).alloc (Nat.le_refl _) _⟩
theorem waitWaits (m : Int) (w : World) : Calls Tryz.prog 162 #[.agg #[.int .i64 m]] w fun e w' => e = .returned (.int .i64 m) ∧ Below w.heap.size w w' := by
  go_enter Tryz.func162, Tryz.ntmps162
  go_wp2
  go_ret
  exact ⟨rfl, (Below.refl _ _).alloc (Nat.le_refl _) _⟩

/-- A method of a policy, asked for a number. -/
def PolM (D : TypeId) (pv : Value) (name : String) (n : Int) : Prop := ∃ f v, (∀ w, (method 328 D pv name).run Tryz.prog w = .ok (f, v) w) ∧ (∀ args w, (callFunc f args).run Tryz.prog w = .ok (.enter f args) w) ∧ ∀ w, Calls Tryz.prog f #[v] w fun e w' => e = .returned (.int .i64 n) ∧ Below w.heap.size w w'
/-- The policy of a number. -/
def PolIs (p : Int) (D : TypeId) (pv : Value) : Prop := PolM D pv "loop.example/dunlin/impl.mostGoes" (mostG p) ∧ PolM D pv "loop.example/dunlin/impl.mostWaits" (mostW p)
theorem same_below {P : Program} {f : FuncId} {args : Array Value} {w : World} {v : Value} (h : Calls P f args w fun e w' => e = .returned v ∧ w' = w) : Calls P f args w fun e w' => e = .returned v ∧ Below w.heap.size w w' := h.mono fun _ _ ⟨he, hw⟩ => ⟨he, by subst hw; exact Below.refl _ _⟩

theorem pol1 : PolIs 1 120 (.agg #[]) :=
  ⟨⟨160, .agg #[], fun w => by kernel_rfl, enters_of Tryz.func160 (by kernel_rfl) rfl, fun w => skipGoes w⟩,
   ⟨161, .agg #[], fun w => by kernel_rfl, enters_of Tryz.func161 (by kernel_rfl) rfl, fun w => skipWaits w⟩⟩
theorem pol2 : PolIs 2 122 (.agg #[.int .i64 1]) :=
  ⟨⟨160, .agg #[], fun w => by kernel_rfl, enters_of Tryz.func160 (by kernel_rfl) rfl, fun w => skipGoes w⟩,
   ⟨162, .agg #[.int .i64 1], fun w => by kernel_rfl, enters_of Tryz.func162 (by kernel_rfl) rfl, fun w => waitWaits 1 w⟩⟩
theorem pol3 : PolIs 3 122 (.agg #[.int .i64 8]) :=
  ⟨⟨160, .agg #[], fun w => by kernel_rfl, enters_of Tryz.func160 (by kernel_rfl) rfl, fun w => skipGoes w⟩,
   ⟨162, .agg #[.int .i64 8], fun w => by kernel_rfl, enters_of Tryz.func162 (by kernel_rfl) rfl, fun w => waitWaits 8 w⟩⟩
theorem pol4 : PolIs 4 124 (.agg #[]) :=
  ⟨⟨163, .agg #[], fun w => by kernel_rfl, enters_of Tryz.func163 (by kernel_rfl) rfl, fun w => bothGoes w⟩,
   ⟨161, .agg #[], fun w => by kernel_rfl, enters_of Tryz.func161 (by kernel_rfl) rfl, fun w => skipWaits w⟩⟩
theorem pol5 : PolIs 5 125 (.agg #[]) :=
  ⟨⟨160, .agg #[], fun w => by kernel_rfl, enters_of Tryz.func160 (by kernel_rfl) rfl, fun w => skipGoes w⟩,
   ⟨161, .agg #[], fun w => by kernel_rfl, enters_of Tryz.func161 (by kernel_rfl) rfl, fun w => skipWaits w⟩⟩

/-- The policy's own value. -/
def polT (p : Int) : TypeId := if p = 1 then 120 else if p = 2 then 122 else if p = 3 then 122 else if p = 4 then 124 else 125
def polV (p : Int) : Value := if p = 2 then .agg #[.int .i64 1] else if p = 3 then .agg #[.int .i64 8] else .agg #[]
theorem pol_is {p : Int} (h : 1 ≤ p ∧ p ≤ 5) : PolIs p (polT p) (polV p) := by
  rcases (by omega : p = 1 ∨ p = 2 ∨ p = 3 ∨ p = 4 ∨ p = 5) with rfl | rfl | rfl | rfl | rfl
  · exact pol1
  · exact pol2
  · exact pol3
  · exact pol4
  · exact pol5

set_option maxHeartbeats 1000000 in
theorem policyOf_yes (p : Int) (h : 1 ≤ p ∧ p ≤ 5) (w : World) : Calls Tryz.prog 60 #[.int .i64 p] w fun e w' => e = .returned (.tuple #[.iface (polT p) (polV p), .bool true]) ∧ Below w.heap.size w w' := by
  have HI : Hid (∀ w, Calls Tryz.prog 73 #[.int .i64 p, .int .i64 1, .int .i64 5] w fun e w' => e = .returned (.bool true) ∧ w' = w) := fun w => isWithin_t p 1 5 h w
  rcases (by omega : p = 1 ∨ p = 2 ∨ p = 3 ∨ p = 4 ∨ p = 5) with rfl | rfl | rfl | rfl | rfl
  all_goals
    go_enter Tryz.func60, Tryz.ntmps60
    go_wp2_with (go_at_call 73; refine (HI.out _).mono ?_; rintro e w1 ⟨rfl, rfl⟩)
    go_ret2
    exact ⟨rfl, (Below.refl _ _).alloc (Nat.le_refl _) _⟩
set_option maxHeartbeats 1000000 in
theorem policyOf_no (p : Int) (h : ¬ (1 ≤ p ∧ p ≤ 5)) (w : World) : Calls Tryz.prog 60 #[.int .i64 p] w fun e w' => e = .returned (.tuple #[.nilIface, .bool false]) ∧ Below w.heap.size w w' := by
  have HI : Hid (∀ w, Calls Tryz.prog 73 #[.int .i64 p, .int .i64 1, .int .i64 5] w fun e w' => e = .returned (.bool false) ∧ w' = w) := fun w => isWithin_f p 1 5 h w
  clear h
  go_enter Tryz.func60, Tryz.ntmps60
  go_wp2_with (go_at_call 73; refine (HI.out _).mono ?_; rintro e w1 ⟨rfl, rfl⟩)
  go_ret2
  exact ⟨rfl, (Below.refl _ _).alloc (Nat.le_refl _) _⟩
end Pl
end Go.Proofs.YtnieaeakaajleaaGreatDoor
