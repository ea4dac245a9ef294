/- The model's CalCount. -/
import Derived.Test.YtkemfifkjaclhaaDoorCA10a
namespace Go.Proofs.YtkemfifkjaclhaaDoor
set_option linter.unusedVariables false
set_option linter.unusedSimpArgs false
open Go.RowKit Go

/-- How many ticks below k, and behind lo, are due. -/
def cntTo (rs : List Rul) (lo : Int) : Nat → Nat
  | 0 => 0
  | k + 1 => cntTo rs lo k + if lo < (k : Int) ∧ calDue rs k = true then 1 else 0
theorem cnt_le (rs : List Rul) (lo : Int) : ∀ k, cntTo rs lo k ≤ k
  | 0 => Nat.le_refl _
  | k + 1 => by have := cnt_le rs lo k; show cntTo rs lo k + _ ≤ _; split <;> omega
theorem cnt_same (rs : List Rul) (lo : Int) (j : Nat) : ∀ k, j ≤ k → (∀ u : Nat, j ≤ u → u < k → ¬ (lo < (u : Int) ∧ calDue rs u = true)) → cntTo rs lo k = cntTo rs lo j
  | 0, h, _ => by have : j = 0 := by omega
                  rw [this]
  | k + 1, h, hn => by
    by_cases e : j = k + 1
    · rw [e]
    · show cntTo rs lo k + _ = _
      rw [if_neg (hn k (by omega) (by omega)), Nat.add_zero]
      exact cnt_same rs lo j k (by omega) fun u h1 h2 => hn u h1 (by omega)
def calCount (rs : List Rul) (lo hi : Int) : Int := (cntTo rs lo (hi + 1).toNat : Nat)
theorem count_low (rs : List Rul) {lo hi : Int} (h : hi ≤ lo) : calCount rs lo hi = 0 := by
  unfold calCount
  rw [cnt_same rs lo 0 _ (Nat.zero_le _) fun u _ h2 h3 => by omega]
  rfl
theorem count_none (rs : List Rul) {lo c hi : Int} (h : c ≤ hi) (hn : ∀ u, c < u → u ≤ hi → ¬ calDue rs u = true) : calCount rs lo hi = calCount rs lo c := by
  unfold calCount
  rw [cnt_same rs lo (c + 1).toNat (hi + 1).toNat (by omega) fun u h1 h2 h3 => hn u (by omega) (by omega) h3.2]
theorem count_one (rs : List Rul) {lo c n : Int} (hc : lo ≤ c) (hn : IsNext rs c n) (h0 : 0 ≤ n) : calCount rs lo n = calCount rs lo c + 1 := by
  rcases hn with ⟨rfl, _⟩ | ⟨h1, h2, h3⟩
  · omega
  · have e1 := count_none rs (lo := lo) (c := c) (hi := n - 1) (by omega) (fun u hu hu2 => h3 u hu (by omega))
    rw [← e1]
    unfold calCount
    have e2 : (n + 1).toNat = (n - 1 + 1).toNat + 1 := by omega
    rw [e2]
    show ((cntTo rs lo (n - 1 + 1).toNat + _ : Nat) : Int) = _
    have e3 : (((n - 1 + 1).toNat : Nat) : Int) = n := by omega
    rw [if_pos ⟨by omega, by rw [e3]; exact h1⟩]
    omega
theorem next_is (rs : List Rul) (t : Int) : IsNext rs t (calNext rs t) := by
  by_cases he : ∃ n, IsNext rs t n
  · obtain ⟨n, h⟩ := he; rw [calNext_eq h]; exact h
  · exfalso
    by_cases hd : ∃ u : Nat, t < (u : Int) ∧ calDue rs u = true
    · obtain ⟨u, hu⟩ := hd
      have hw : ∃ u : Nat, (t < (u : Int) ∧ calDue rs u = true) ∧ ∀ v : Nat, v < u → ¬ (t < (v : Int) ∧ calDue rs v = true) := by
        induction u using Nat.strongRecOn with
        | _ u ih =>
          by_cases h : ∃ v : Nat, v < u ∧ (t < (v : Int) ∧ calDue rs v = true)
          · obtain ⟨v, h1, h2⟩ := h; exact ih v h1 h2
          · exact ⟨u, hu, fun v h1 h2 => h ⟨v, h1, h2⟩⟩
      obtain ⟨u, h1, h2⟩ := hw
      refine he ⟨u, .inr ⟨h1.2, h1.1, fun v h3 h4 h5 => ?_⟩⟩
      have := (due_bd h5).1
      refine h2 v.toNat (by omega) ⟨by omega, ?_⟩
      rw [show ((v.toNat : Nat) : Int) = v from by omega]; exact h5
    · refine he ⟨-1, .inl ⟨rfl, fun v h3 h5 => ?_⟩⟩
      have := (due_bd h5).1
      refine hd ⟨v.toNat, by omega, ?_⟩
      rw [show ((v.toNat : Nat) : Int) = v from by omega]; exact h5
theorem next_bd (rs : List Rul) (t : Int) : -1 ≤ calNext rs t ∧ calNext rs t ≤ 100000 ∧ (0 ≤ calNext rs t → t < calNext rs t) := by
  rcases next_is rs t with ⟨h, _⟩ | ⟨h, h2, _⟩
  · rw [h]; omega
  · have := due_bd h; omega

/-- What is left to count. -/
def leftOf (x : Int) : Nat := if x < 0 then 0 else (100002 - x).toNat
end Go.Proofs.YtkemfifkjaclhaaDoor
