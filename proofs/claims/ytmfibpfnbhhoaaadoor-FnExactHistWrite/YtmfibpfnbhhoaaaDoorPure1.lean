/- Plain functions on bytes and lists that the walks speak of: names, numbers, words. Nothing of the program stands here. -/
import Derived.KernelRfl
namespace Go.Proofs.YtmfibpfnbhhoaaaDoor
set_option linter.unusedVariables false
set_option linter.unusedSimpArgs false

def isLow (c : UInt8) : Bool := decide (97 ≤ c.toNat) && decide (c.toNat ≤ 122)
def isDig (c : UInt8) : Bool := decide (48 ≤ c.toNat) && decide (c.toNat ≤ 57)
def wordc (c : UInt8) : Bool := isLow c || isDig c
def headLow : List UInt8 → Bool
  | c :: _ => isLow c
  | [] => false
/-- A name: 1 to 8 bytes, letters or digits, the first no digit. -/
def nameOk (s : List UInt8) : Bool := decide (1 ≤ s.length) && decide (s.length ≤ 8) && headLow s && s.all wordc

theorem nameOk_bad_len (s : List UInt8) (h : ¬ (1 ≤ s.length ∧ s.length ≤ 8)) : nameOk s = false := by
  unfold nameOk
  by_cases h1 : 1 ≤ s.length <;> by_cases h2 : s.length ≤ 8 <;> simp [h1, h2] <;> omega
theorem nameOk_bad_head (s : List UInt8) (h : headLow s = false) : nameOk s = false := by simp [nameOk, h]
theorem nameOk_bad_at (s : List UInt8) (k : Nat) (hk : k < s.length) (h : wordc s[k] = false) : nameOk s = false := by
  have : s.all wordc = false := by
    rw [List.all_eq_false]; exact ⟨s[k], List.getElem_mem hk, by simp [h]⟩
  simp [nameOk, this]
theorem nameOk_good (s : List UInt8) (h1 : 1 ≤ s.length) (h2 : s.length ≤ 8) (h3 : headLow s = true) (h4 : ∀ i (hi : i < s.length), wordc s[i] = true) : nameOk s = true := by
  have : s.all wordc = true := by
    rw [List.all_eq_true]; intro x hx; obtain ⟨i, hi, rfl⟩ := List.mem_iff_getElem.1 hx; exact h4 i hi
  simp [nameOk, h1, h2, h3, this]
theorem headLow_at (s : List UInt8) (h : 0 < s.length) : headLow s = isLow s[0] := by
  cases s with
  | nil => simp at h
  | cons c l => rfl
end Go.Proofs.YtmfibpfnbhhoaaaDoor
