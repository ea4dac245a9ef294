/- Names of runs of times: small letters; the model's l51Word and HouseRun. -/
import Derived.Test.YtoalpmenodiijaaDoorHW3
import Derived.Test.YtoalpmenodiijaaDoorS0
import Derived.Test.YtoalpmenodiijaaDoorCI0
import Derived.Laws.RangeString
import Derived.Laws.RangeAny
namespace Go.Proofs.YtoalpmenodiijaaDoor
set_option linter.unusedVariables false
set_option linter.unusedSimpArgs false
open Go.RowKit Go

def lowC (c : UInt8) : Bool := decide (97 ≤ c.toNat) && decide (c.toNat ≤ 122)
def allLow (s : ByteArray) : Bool := s.data.toList.all lowC
/-- The name of a plan is ok. -/
def planNm (s : ByteArray) : Bool := allLow s && decide (1 ≤ (s.size : Int) ∧ (s.size : Int) ≤ 2)
theorem lowC_yes {c : UInt8} (h : lowC c = true) : 97 ≤ c.toNat ∧ c.toNat ≤ 122 := by simpa [lowC] using h
theorem lowC_no {c : UInt8} (h : lowC c = false) : c.toNat < 97 ∨ 122 < c.toNat := by
  simp only [lowC, Bool.and_eq_false_iff, decide_eq_false_iff_not] at h; omega
def lowTo (s : ByteArray) (p : Nat) : Prop := ∀ j (hj : j < s.size), j < p → lowC s[j] = true
theorem lowTo_none {s : ByteArray} {p : Nat} (hp : p < s.size) (h : lowC s[p] = false) : allLow s = false := by
  unfold allLow
  rw [List.all_eq_false]
  refine ⟨s.data.toList[p]'(by simpa using hp), List.getElem_mem _, ?_⟩
  have e : s.data.toList[p]'(by simpa using hp) = s[p] := by simp; rfl
  rw [e, h]; simp
theorem lowTo_all {s : ByteArray} {p : Nat} (hp : ¬ p < s.size) (h : lowTo s p) : allLow s = true := by
  unfold allLow
  rw [List.all_eq_true]
  intro x hx
  obtain ⟨j, hj, rfl⟩ := List.getElem_of_mem hx
  have hj' : j < s.size := by simpa using hj
  have e : s.data.toList[j]'hj = s[j] := by simp; rfl
  rw [e]; exact h j hj' (by omega)
theorem lowTo_step {s : ByteArray} {p : Nat} (hp : p < s.size) (h : lowTo s p) (hc : lowC s[p] = true) : lowTo s (p + 1) := by
  intro j hj hjp
  by_cases e : j = p
  · subst e; exact hc
  · exact h j hj (by omega)

set_option maxRecDepth 100000 in
set_option maxHeartbeats 1000000 in
theorem l51Word (s : ByteArray) (w : World) (hs : s.size ≤ maxLen) :
    Calls Tryd.prog 6 #[.string s] w fun e w' => e = .returned (.bool (planNm s)) ∧ w' = w := by
  unfold maxLen at hs
  have HI : Hid (∀ w, Calls Tryd.prog 7 #[.int .i64 (s.size : Int), .int .i64 1, .int .i64 2] w fun e w' => e = .returned (.bool (decide (1 ≤ (s.size : Int) ∧ (s.size : Int) ≤ 2))) ∧ w' = w) := fun w => l1In_d _ _ _ w
  have HP : Hid (∀ b, allLow s = b → planNm s = (b && decide (1 ≤ (s.size : Int) ∧ (s.size : Int) ≤ 2))) := by intro b h; rw [← h]; rfl
  generalize decide (1 ≤ (s.size : Int) ∧ (s.size : Int) ≤ 2) = v at HI HP
  go_enter Tryd.func6, Tryd.ntmps6
  go_wp2
  go_loop [3] (fun i => ∃ k : Nat, k ≤ s.size ∧ i = .int .i64 k ∧ lowTo s k) (fun i => s.size - (intOf i).toNat)
  case atStart => exact ⟨0, Nat.zero_le _, rfl, fun j _ h => by omega⟩
  case round =>
    obtain ⟨k, hk, rfl, hT⟩ := hrel
    have HT : Hid (lowTo s k) := hT
    clear hT
    by_cases hlt : k < s.size
    · by_cases hc : lowC s[k] = true
      · have HR : Hid (lowTo s (k + 1)) := lowTo_step hlt HT.out hc
        have hc' := lowC_yes hc
        have d1 : decide ((s[k].toNat : Int) < 97) = false := decide_eq_false (by omega)
        have d2 : decide ((122 : Int) < (s[k].toNat : Int)) = false := decide_eq_false (by omega)
        clear hc hc'
        go_wp2_with fail
        go_round
        case rel => exact ⟨k + 1, by omega, by go_num, HR.out⟩
        case measure => simp [intOf]; omega
      · have HF : Hid (planNm s = false) := by rw [HP.out false (lowTo_none hlt (by simpa using hc))]; rfl
        have hc' := lowC_no (by simpa using hc : lowC s[k] = false)
        clear hc
        by_cases h97 : s[k].toNat < 97
        · have d1 : decide ((s[k].toNat : Int) < 97) = true := decide_eq_true (by omega)
          clear hc' h97
          go_wp2_with fail
          go_ret
          exact ⟨ret_bool HF.out.symm, rfl⟩
        · have d1 : decide ((s[k].toNat : Int) < 97) = false := decide_eq_false (by omega)
          have d2 : decide ((122 : Int) < (s[k].toNat : Int)) = true := decide_eq_true (by omega)
          clear hc' h97
          go_wp2_with fail
          go_ret
          exact ⟨ret_bool HF.out.symm, rfl⟩
    · have HF : Hid (planNm s = v) := (HP.out true (lowTo_all hlt HT.out)).trans (by simp)
      go_wp2_with (go_at_call 7; refine (HI.out _).mono ?_; rintro e w1 ⟨rfl, rfl⟩)
      go_ret
      exact ⟨ret_bool HF.out.symm, rfl⟩
end Go.Proofs.YtoalpmenodiijaaDoor
