/- The model's numbers in decimals. -/
import Derived.Test.YtnieaeakaajleaaGreatDoorJ3
namespace Go.Proofs.YtnieaeakaajleaaGreatDoor
set_option linter.unusedVariables false
set_option linter.unusedSimpArgs false
open Go.RowKit Go

set_option maxHeartbeats 1000000 in
theorem l41Dec_nat (u : Nat) (hu : u ≤ 9223372036854775807) (w : World) :
    Calls Tryz.prog 44 #[.int .i64 u] w fun e w' => e = .returned (.string (decB u)) ∧ Below w.heap.size w w' := by
  induction u using Nat.strongRecOn generalizing w with
  | _ u ih =>
    by_cases h : u < 10
    · rw [decB_small h]
      clear ih
      have hcv := fun w b h' => cv_one w b (digC u) (48 + (u : Int)) (byte_of u h).symm h'
      go_enter Tryz.func44, Tryz.ntmps44
      go_wp2
      go_ret
      exact ⟨rfl, (Below.refl _ _).alloc (Nat.le_refl _) _⟩
    · have e1 : IntKind.i64.wrap ((u : Int) / 10) = ((u / 10 : Nat) : Int) := by rw [IntKind.wrap_i64]; omega
      have e2 : IntKind.u8.wrap (IntKind.i64.wrap (48 + (u : Int).tmod 10)) = ((digC (u % 10)).toNat : Int) := by
        rw [byte_of _ (by omega), Int.tmod_eq_emod_of_nonneg (by omega), IntKind.wrap_i64, IntKind.wrap_u8]; omega
      have IH : Hid (∀ w, Calls Tryz.prog 44 #[.int .i64 (IntKind.i64.wrap ((u : Int) / 10))] w fun e w' => e = .returned (.string (decB (u / 10))) ∧ Below w.heap.size w w') := fun w => by rw [e1]; exact ih (u / 10) (by omega) (by omega) w
      clear ih
      rw [decB_more h]
      go_enter Tryz.func44, Tryz.ntmps44
      have hcv := fun w b h' => cv_one w b (digC (u % 10)) _ e2 h'
      have hsz : (decB (u / 10)).size ≤ 21 := decB_size _ (by omega)
      have hs1 : (⟨#[digC (u % 10)]⟩ : ByteArray).size = 1 := rfl
      clear e1 e2
      go_wp2_with fail
      go_region_with (go_at_call 44; refine (IH.out _).mono ?_; rintro e w1 ⟨rfl, hw1⟩; have i0 := fun (h : w.heap.size < _) => hw1.cell (p := ⟨w.heap.size, 0, none⟩) h)
      all_goals
        go_wp2_with fail
        go_ret
        refine ⟨rfl, ?_⟩
        first
          | exact (bcall (Below.refl _ _).drew (Nat.le_refl _) hw1).alloc hw1.size _
          | exact bcall ((Below.refl _ _).alloc (Nat.le_refl _) _).drew (by simp) hw1

set_option maxHeartbeats 1000000 in
theorem l41Dec (n : Int) (h0 : -9223372036854775807 ≤ n) (h1 : n ≤ 9223372036854775807) (w : World) :
    Calls Tryz.prog 44 #[.int .i64 n] w fun e w' => e = .returned (.string (itoB n)) ∧ Below w.heap.size w w' := by
  by_cases h : n < 0
  · obtain ⟨u, rfl⟩ : ∃ u : Nat, n = -(u : Int) := ⟨n.natAbs, by omega⟩
    rw [itoB_neg u (by omega)]
    have IH : Hid (∀ w, Calls Tryz.prog 44 #[.int .i64 (u : Int)] w fun e w' => e = .returned (.string (decB u)) ∧ Below w.heap.size w w') := fun w => l41Dec_nat u (by omega) w
    have hsz : (decB u).size ≤ 21 := decB_size _ (by omega)
    have hs1 : (⟨#[45]⟩ : ByteArray).size = 1 := rfl
    go_enter Tryz.func44, Tryz.ntmps44
    go_wp2_with (go_at_call 44; refine (IH.out _).mono ?_; rintro e w1 ⟨rfl, hw1⟩)
    go_ret
    exact ⟨rfl, hw1⟩
  · obtain ⟨u, rfl⟩ : ∃ u : Nat, n = (u : Int) := ⟨n.toNat, by omega⟩
    rw [itoB_nat]
    exact l41Dec_nat u (by omega) w
end Go.Proofs.YtnieaeakaajleaaGreatDoor
