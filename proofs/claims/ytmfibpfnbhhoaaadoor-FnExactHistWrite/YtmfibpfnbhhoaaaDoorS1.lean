/- The walks of the model's small functions: l1In, l1NameOk, l1Has. -/
import Derived.Test.YtmfibpfnbhhoaaaDoorVoc
import Derived.Test.YtmfibpfnbhhoaaaDoorPure1
namespace Go.Proofs.YtmfibpfnbhhoaaaDoor
set_option linter.unusedVariables false
set_option linter.unusedSimpArgs false
open Go.RowKit

set_option maxHeartbeats 400000 in
theorem l1In_t (n lo hi : Int) (w : World) (h1 : lo ≤ n) (h2 : n ≤ hi) :
    Calls Tryd.prog 38 #[.int .i64 n, .int .i64 lo, .int .i64 hi] w fun e w' => e = .returned (.bool true) ∧ w' = w := by
  go_enter Tryd.func38, Tryd.ntmps38
  go_wp2
  go_ret
  exact ⟨by simp [h1, h2], rfl⟩
set_option maxHeartbeats 400000 in
theorem l1In_f (n lo hi : Int) (w : World) (h : n < lo ∨ hi < n) :
    Calls Tryd.prog 38 #[.int .i64 n, .int .i64 lo, .int .i64 hi] w fun e w' => e = .returned (.bool false) ∧ w' = w := by
  rcases h with h | h
  · go_enter Tryd.func38, Tryd.ntmps38
    go_wp2
    go_ret
    exact ⟨by first | (simp; done) | (simp; omega), rfl⟩
  · by_cases h1 : lo ≤ n
    · go_enter Tryd.func38, Tryd.ntmps38
      go_wp2
      go_ret
      exact ⟨by first | (simp; done) | (simp; omega), rfl⟩
    · go_enter Tryd.func38, Tryd.ntmps38
      go_wp2
      go_ret
      exact ⟨by first | (simp; done) | (simp; omega), rfl⟩

theorem bget (s : ByteArray) (k : Nat) (h : k < s.size) : s.data.toList[k]'(by simpa using h) = s[k] := by simp; rfl

/-- What the loop of l1NameOk leaves at each round. -/
theorem nm_step {s : ByteArray} {k : Nat} (h : k < s.size) (ha : ∀ j (hj : j < s.size), j < k → wordc s[j] = true) (hw : wordc s[k] = true) : ∀ j (hj : j < s.size), j < k + 1 → wordc s[j] = true := by
  intro j hj hjk
  by_cases e : j = k
  · subst e; exact hw
  · exact ha j hj (by omega)
theorem wordc_low {c : UInt8} (h1 : (97 : Int) ≤ (c.toNat : Int)) (h2 : (c.toNat : Int) ≤ 122) : wordc c = true := by
  have a : 97 ≤ c.toNat := by omega
  have b : c.toNat ≤ 122 := by omega
  simp [wordc, isLow, a, b]
theorem wordc_dig {c : UInt8} (h1 : (48 : Int) ≤ (c.toNat : Int)) (h2 : (c.toNat : Int) ≤ 57) : wordc c = true := by
  have a : 48 ≤ c.toNat := by omega
  have b : c.toNat ≤ 57 := by omega
  simp [wordc, isDig, a, b]
theorem wordc_no {c : UInt8} (h1 : ¬ ((97 : Int) ≤ (c.toNat : Int) ∧ (c.toNat : Int) ≤ 122)) (h2 : ¬ ((48 : Int) ≤ (c.toNat : Int) ∧ (c.toNat : Int) ≤ 57)) : wordc c = false := by
  simp only [wordc, isLow, isDig, Bool.or_eq_false_iff, Bool.and_eq_false_iff, decide_eq_false_iff_not]
  constructor <;> omega

set_option maxHeartbeats 1000000 in
theorem l1NameOk (s : ByteArray) (w : World) (hs : s.size ≤ maxLen) :
    Calls Tryd.prog 39 #[.string s] w fun e w' => e = .returned (.bool (nameOk s.data.toList)) ∧ w' = w := by
  unfold maxLen at hs
  by_cases hl : 1 ≤ s.size ∧ s.size ≤ 8
  · obtain ⟨hl1, hl2⟩ := hl
    have h0 : 0 < s.size := by omega
    have HL : Hid (headLow s.data.toList = isLow s[0]) := by
      show headLow s.data.toList = isLow s[0]
      rw [headLow_at _ (by simpa using h0), bget s 0 h0]
    by_cases hh : isLow s[0] = true
    · have hh' := hh
      simp only [isLow, Bool.and_eq_true, decide_eq_true_eq] at hh'
      have g1 : (97 : Int) ≤ (s[0].toNat : Int) := by omega
      have g2 : (s[0].toNat : Int) ≤ 122 := by omega
      clear hh'
      have HH : Hid (isLow s[0] = true) := hh
      clear hh
      go_enter Tryd.func39, Tryd.ntmps39
      go_wp2_with (go_at_call 38; refine (l1In_t _ _ _ _ (by omega) (by omega)).mono ?_; rintro e w' ⟨rfl, rfl⟩)
      go_loop [3] (fun i => ∃ k : Nat, k ≤ s.size ∧ i = .int .i64 k ∧ ∀ j (hj : j < s.size), j < k → wordc s[j] = true) (fun i => s.size - (intOf i).toNat)
      case atStart => exact ⟨0, Nat.zero_le _, rfl, fun j hj h => by omega⟩
      case round =>
        obtain ⟨k, hk, rfl, ha⟩ := hrel
        have HA : Hid (∀ j (hj : j < s.size), j < k → wordc s[j] = true) := ha
        clear ha
        by_cases hlt : k < s.size
        · by_cases hw : wordc s[k] = true
          · have HW : Hid (wordc s[k] = true) := hw
            have hw' : ((97 : Int) ≤ (s[k].toNat : Int) ∧ (s[k].toNat : Int) ≤ 122) ∨ ((48 : Int) ≤ (s[k].toNat : Int) ∧ (s[k].toNat : Int) ≤ 57) := by
              simp only [wordc, isLow, isDig, Bool.or_eq_true, Bool.and_eq_true, decide_eq_true_eq] at hw; omega
            clear hw
            rcases hw' with ⟨c1, c2⟩ | ⟨c1, c2⟩
            all_goals
              go_wp2
              go_round
              case rel => exact ⟨k + 1, by omega, by go_num, nm_step hlt HA.out HW.out⟩
              case measure => simp [intOf]; omega
          · have hw0 : wordc s[k] = false := by simpa using hw
            have HW : Hid (wordc s[k] = false) := hw0
            clear hw0
            have hw' : ¬ ((97 : Int) ≤ (s[k].toNat : Int) ∧ (s[k].toNat : Int) ≤ 122) ∧ ¬ ((48 : Int) ≤ (s[k].toNat : Int) ∧ (s[k].toNat : Int) ≤ 57) := by
              simp only [wordc, isLow, isDig, Bool.or_eq_true, Bool.and_eq_true, decide_eq_true_eq] at hw; omega
            clear hw
            obtain ⟨n1, n2⟩ := hw'
            have hfin : nameOk s.data.toList = false := nameOk_bad_at _ k (by simpa using hlt) (by rw [bget s k hlt]; exact HW.out)
            have HF : Hid (nameOk s.data.toList = false) := hfin
            clear hfin
            by_cases c1 : (97 : Int) ≤ (s[k].toNat : Int)
            · have c2 : (122 : Int) < (s[k].toNat : Int) := by omega
              have d2 : decide ((s[k].toNat : Int) ≤ 122) = false := decide_eq_false (by omega)
              have d3 : decide ((s[k].toNat : Int) ≤ 57) = false := decide_eq_false (by omega)
              have c4 : (48 : Int) ≤ (s[k].toNat : Int) := by omega
              clear n1 n2 c2
              go_wp2
              go_ret
              exact ⟨ret_bool HF.out.symm, rfl⟩
            · by_cases c3 : (48 : Int) ≤ (s[k].toNat : Int)
              · have c4 : ¬ ((s[k].toNat : Int) ≤ 57) := fun h => n2 ⟨c3, h⟩
                clear n1 n2
                go_wp2
                go_ret
                exact ⟨ret_bool HF.out.symm, rfl⟩
              · clear n1 n2
                go_wp2
                go_ret
                exact ⟨ret_bool HF.out.symm, rfl⟩
        · have hfin : nameOk s.data.toList = true := nameOk_good _ (by simpa using hl1) (by simpa using hl2) (by rw [HL.out]; exact HH.out) (fun i hi => by rw [bget s i (by simpa using hi)]; exact HA.out i _ (by simp at hi; omega))
          have HF : Hid (nameOk s.data.toList = true) := hfin
          clear hfin
          go_wp2
          go_ret
          exact ⟨ret_bool HF.out.symm, rfl⟩
    · have hfin : nameOk s.data.toList = false := nameOk_bad_head _ (by rw [HL.out]; simpa using hh)
      have HF : Hid (nameOk s.data.toList = false) := hfin
      have hh' : ¬ ((97 : Int) ≤ (s[0].toNat : Int) ∧ (s[0].toNat : Int) ≤ 122) := by
        simp only [isLow, Bool.and_eq_true, decide_eq_true_eq] at hh; omega
      clear hfin hh
      by_cases c1 : (s[0].toNat : Int) < 97
      · clear hh'
        go_enter Tryd.func39, Tryd.ntmps39
        go_wp2_with (go_at_call 38; refine (l1In_t _ _ _ _ (by omega) (by omega)).mono ?_; rintro e w' ⟨rfl, rfl⟩)
        go_ret
        exact ⟨ret_bool HF.out.symm, rfl⟩
      · have c2 : (122 : Int) < (s[0].toNat : Int) := by omega
        clear hh'
        go_enter Tryd.func39, Tryd.ntmps39
        go_wp2_with (go_at_call 38; refine (l1In_t _ _ _ _ (by omega) (by omega)).mono ?_; rintro e w' ⟨rfl, rfl⟩)
        go_ret
        exact ⟨ret_bool HF.out.symm, rfl⟩
  · have hfin : nameOk s.data.toList = false := nameOk_bad_len _ (by simpa using hl)
    have HF : Hid (nameOk s.data.toList = false) := hfin
    have hl' : (s.size : Int) < 1 ∨ (8 : Int) < (s.size : Int) := by omega
    clear hfin hl
    go_enter Tryd.func39, Tryd.ntmps39
    go_wp2_with (go_at_call 38; refine (l1In_f _ _ _ _ hl').mono ?_; rintro e w' ⟨rfl, rfl⟩)
    go_ret
    exact ⟨ret_bool HF.out.symm, rfl⟩
end Go.Proofs.YtmfibpfnbhhoaaaDoor
