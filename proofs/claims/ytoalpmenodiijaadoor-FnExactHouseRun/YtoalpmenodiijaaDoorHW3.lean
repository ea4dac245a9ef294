/- The model's decimals. -/
import Derived.Test.YtoalpmenodiijaaDoorB1
import Derived.Lib.ItoaNum
import Derived.Lib.ItoaLen
import Derived.Laws.IdiomStrings
namespace Go.Proofs.YtoalpmenodiijaaDoor
set_option linter.unusedVariables false
set_option linter.unusedSimpArgs false
open Go.RowKit Go

/-- A figure. -/
def digC (u : Nat) : UInt8 := UInt8.ofNat (48 + u)
/-- Decimals, as a string. -/
def decB (u : Nat) : ByteArray := ⟨(Lib.decDigits u).toArray⟩
theorem decB_small {u : Nat} (h : u < 10) : decB u = ⟨#[digC u]⟩ := by unfold decB; rw [Lib.decDigits, dif_pos h]; rfl
theorem decB_more {u : Nat} (h : ¬ u < 10) : decB u = decB (u / 10) ++ ⟨#[digC (u % 10)]⟩ := by
  unfold decB; rw [Lib.decDigits, dif_neg h]; ext1; simp [digC]

theorem decB_size (u : Nat) (h : u ≤ 9223372036854775807) : (decB u).size ≤ 21 := by
  have := Lib.itoa_length_le (u : Int) (by omega) (by omega)
  unfold Lib.itoa at this
  rw [if_neg (by omega)] at this
  simpa [decB, ByteArray.size] using this

/-- string(b) of one byte that lies there. -/
theorem cv_one (w : World) (b : Nat) (c : UInt8) (n : Int) (hn : n = (c.toNat : Int)) (h : w.cell? ⟨b, 0, none⟩ = some (.int .u8 n)) :
    (convert 28 9 (.slice (some ⟨b, 0, none⟩) 1 1)).run Tryd.prog w = .ok (.string ⟨#[c]⟩) w := by
  have := run_convert_bytes_back (P := Tryd.prog) w 28 9 5 ⟨b, 0, none⟩ 1 [c] Tryd.underlying28 Tryd.underlying5 Tryd.underlying9 (fun j hj => by
    have : j = 0 := by simp at hj; omega
    subst this
    rw [Addr.add]; simpa [hn] using h)
  simpa using this
theorem byte_of (u : Nat) (h : u < 10) : ((digC u).toNat : Int) = 48 + (u : Int) := by
  simp [digC]; omega

set_option maxHeartbeats 1000000 in
theorem l1Dec_nat (u : Nat) (hu : u ≤ 9223372036854775807) (w : World) :
    Calls Tryd.prog 8 #[.int .i64 u] w fun e w' => e = .returned (.string (decB u)) ∧ Below w.heap.size w w' := by
  induction u using Nat.strongRecOn generalizing w with
  | _ u ih =>
    by_cases h : u < 10
    · rw [decB_small h]
      clear ih
      have hcv := fun w b h' => cv_one w b (digC u) (48 + (u : Int)) (byte_of u h).symm h'
      go_enter Tryd.func8, Tryd.ntmps8
      go_wp2
      go_ret
      exact ⟨rfl, (Below.refl _ _).alloc (Nat.le_refl _) _⟩
    · have e1 : IntKind.i64.wrap ((u : Int) / 10) = ((u / 10 : Nat) : Int) := by rw [IntKind.wrap_i64]; omega
      have e2 : IntKind.u8.wrap (IntKind.i64.wrap (48 + (u : Int).tmod 10)) = ((digC (u % 10)).toNat : Int) := by
        rw [byte_of _ (by omega), Int.tmod_eq_emod_of_nonneg (by omega), IntKind.wrap_i64, IntKind.wrap_u8]; omega
      have IH : Hid (∀ w, Calls Tryd.prog 8 #[.int .i64 (IntKind.i64.wrap ((u : Int) / 10))] w fun e w' => e = .returned (.string (decB (u / 10))) ∧ Below w.heap.size w w') := fun w => by rw [e1]; exact ih (u / 10) (by omega) (by omega) w
      clear ih
      rw [decB_more h]
      go_enter Tryd.func8, Tryd.ntmps8
      have hcv := fun w b h' => cv_one w b (digC (u % 10)) _ e2 h'
      have hsz : (decB (u / 10)).size ≤ 21 := decB_size _ (by omega)
      have hs1 : (⟨#[digC (u % 10)]⟩ : ByteArray).size = 1 := rfl
      clear e1 e2
      go_wp2_with fail
      go_region_with (go_at_call 8; refine (IH.out _).mono ?_; rintro e w1 ⟨rfl, hw1⟩; have i0 := fun (h : w.heap.size < _) => hw1.cell (p := ⟨w.heap.size, 0, none⟩) h)
      all_goals
        go_wp2_with fail
        go_ret
        refine ⟨rfl, ?_⟩
        first
          | exact (bcall (Below.refl _ _).drew (Nat.le_refl _) hw1).alloc hw1.size _
          | exact bcall ((Below.refl _ _).alloc (Nat.le_refl _) _).drew (by simp) hw1

/-- A number's decimals, as a string. -/
def itoB (n : Int) : ByteArray := ⟨(Lib.itoa n).toArray⟩
theorem itoB_nat (u : Nat) : itoB (u : Int) = decB u := by
  unfold itoB decB Lib.itoa; rw [if_neg (by omega)]; simp
theorem itoB_neg (u : Nat) (h : 1 ≤ u) : itoB (-(u : Int)) = ⟨#[45]⟩ ++ decB u := by
  unfold itoB decB Lib.itoa; rw [if_pos (by omega)]; ext1; simp
theorem itoB_size (n : Int) (h0 : -9223372036854775808 ≤ n) (h1 : n ≤ 9223372036854775807) : (itoB n).size ≤ 21 := by
  have := Lib.itoa_length_le n h0 h1
  simpa [itoB, ByteArray.size] using this

set_option maxHeartbeats 1000000 in
theorem l1Dec (n : Int) (h0 : -9223372036854775807 ≤ n) (h1 : n ≤ 9223372036854775807) (w : World) :
    Calls Tryd.prog 8 #[.int .i64 n] w fun e w' => e = .returned (.string (itoB n)) ∧ Below w.heap.size w w' := by
  by_cases h : n < 0
  · obtain ⟨u, rfl⟩ : ∃ u : Nat, n = -(u : Int) := ⟨n.natAbs, by omega⟩
    rw [itoB_neg u (by omega)]
    have IH : Hid (∀ w, Calls Tryd.prog 8 #[.int .i64 (u : Int)] w fun e w' => e = .returned (.string (decB u)) ∧ Below w.heap.size w w') := fun w => l1Dec_nat u (by omega) w
    have hsz : (decB u).size ≤ 21 := decB_size _ (by omega)
    have hs1 : (⟨#[45]⟩ : ByteArray).size = 1 := rfl
    go_enter Tryd.func8, Tryd.ntmps8
    go_wp2_with (go_at_call 8; refine (IH.out _).mono ?_; rintro e w1 ⟨rfl, hw1⟩)
    go_ret
    exact ⟨rfl, hw1⟩
  · obtain ⟨u, rfl⟩ : ∃ u : Nat, n = (u : Int) := ⟨n.toNat, by omega⟩
    rw [itoB_nat]
    exact l1Dec_nat u (by omega) w
end Go.Proofs.YtoalpmenodiijaaDoor
