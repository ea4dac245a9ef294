/- The program's isName: what the model's l1NameOk says. -/
import Derived.Test.YtmfibpfnbhhoaaaDoorS1
import Derived.Laws.RangeString
import Derived.Laws.RangeAny
namespace Go.Proofs.YtmfibpfnbhhoaaaDoor
set_option linter.unusedVariables false
set_option linter.unusedSimpArgs false
open Go.RowKit

/-- The loop's word: the bytes up to p are letters or digits, the first a letter. -/
def nmTo (s : ByteArray) (p : Nat) : Prop := (∀ j (hj : j < s.size), j < p → wordc s[j] = true) ∧ (∀ h : 0 < s.size, 0 < p → isLow s[0] = true)
theorem nm_none {s : ByteArray} {p : Nat} (hp : p < s.size) (h : wordc s[p] = false) : nameOk s.data.toList = false := nameOk_bad_at _ p (by simpa using hp) (by rw [bget s p hp]; exact h)

set_option maxRecDepth 100000 in
set_option maxHeartbeats 1000000 in
theorem isName (s : ByteArray) (w : World) (hs : s.size ≤ maxLen) :
    Calls Tryd.prog 43 #[.string s] w fun e w' => e = .returned (.bool (nameOk s.data.toList)) ∧ Below w.heap.size w w' := by
  unfold maxLen at hs
  by_cases hl : 1 ≤ s.size ∧ s.size ≤ 8
  · obtain ⟨hl1, hl2⟩ := hl
    go_enter Tryd.func43, Tryd.ntmps43
    go_wp2
    go_loopw [] (fun wr => ∃ p : Nat, p ≤ s.size ∧ nmTo s p ∧ wr = w.iter s p) (fun wr => s.size - wr.iterPos w.heap.size)
    case atStart => exact ⟨0, Nat.zero_le _, ⟨fun j _ h => by omega, fun _ h => by omega⟩, rfl⟩
    case round =>
      obtain ⟨p, hp, hN, hwr⟩ := hrel
      have HN : Hid (nmTo s p) := hN
      clear hN
      subst hwr
      by_cases hlt : p < s.size
      · have hp0 : ((p : Int) == 0) = true ∨ ((p : Int) == 0) = false := by cases ((p : Int) == 0) <;> simp
        by_cases ha : s[p].toNat < 128
        · have hnx := fun ty => run_next_ascii (P := Tryd.prog) w s p ty hlt ha
          by_cases hlo : 97 ≤ s[p].toNat ∧ s[p].toNat ≤ 122
          · have HR : Hid (nmTo s (p + 1)) := by
              have hw : wordc s[p] = true := wordc_low (by omega) (by omega)
              have hi : isLow s[p] = true := by simp [isLow, hlo.1, hlo.2]
              refine ⟨nm_step hlt HN.out.1 hw, fun h _ => ?_⟩
              by_cases e : p = 0
              · subst e; exact hi
              · exact HN.out.2 h (by omega)
            have d1 : decide ((97 : Int) ≤ (s[p].toNat : Int)) = true := decide_eq_true (by omega)
            have d2 : decide ((s[p].toNat : Int) ≤ (122 : Int)) = true := decide_eq_true (by omega)
            have d3 : decide ((48 : Int) ≤ (s[p].toNat : Int)) = true := decide_eq_true (by omega)
            have d4 : decide ((s[p].toNat : Int) ≤ (57 : Int)) = false := decide_eq_false (by omega)
            clear hlo ha
            go_wp2_with fail
            go_roundw
            case rel => exact ⟨p + 1, by omega, HR.out, rfl⟩
            case measure => simp; omega
          · by_cases hdi : 48 ≤ s[p].toNat ∧ s[p].toNat ≤ 57
            · rcases hp0 with hp0 | hp0
              · have HF : Hid (nameOk s.data.toList = false) := by
                  have e : p = 0 := by have := beq_iff_eq.1 hp0; omega
                  subst e
                  refine nameOk_bad_head _ ?_
                  rw [headLow_at _ (by simpa using hlt), bget s 0 hlt]
                  simp [isLow]; omega
                have d1 : decide ((97 : Int) ≤ (s[p].toNat : Int)) = false := decide_eq_false (by omega)
                have d3 : decide ((48 : Int) ≤ (s[p].toNat : Int)) = true := decide_eq_true (by omega)
                have d4 : decide ((s[p].toNat : Int) ≤ (57 : Int)) = true := decide_eq_true (by omega)
                clear hlo ha hdi
                go_wp2_with fail
                go_ret
                exact ⟨ret_bool HF.out.symm, (Below.refl _ _).alloc (Nat.le_refl _) _⟩
              · have HR : Hid (nmTo s (p + 1)) := by
                  have hw : wordc s[p] = true := wordc_dig (by omega) (by omega)
                  refine ⟨nm_step hlt HN.out.1 hw, fun h _ => HN.out.2 h ?_⟩
                  have := beq_eq_false_iff_ne.1 hp0; omega
                have d1 : decide ((97 : Int) ≤ (s[p].toNat : Int)) = false := decide_eq_false (by omega)
                have d3 : decide ((48 : Int) ≤ (s[p].toNat : Int)) = true := decide_eq_true (by omega)
                have d4 : decide ((s[p].toNat : Int) ≤ (57 : Int)) = true := decide_eq_true (by omega)
                clear hlo ha hdi
                go_wp2_with fail
                go_roundw
                case rel => exact ⟨p + 1, by omega, HR.out, rfl⟩
                case measure => simp; omega
            · have HF : Hid (nameOk s.data.toList = false) := nm_none hlt (wordc_no (by omega) (by omega))
              by_cases h97 : 97 ≤ s[p].toNat
              · have d1 : decide ((97 : Int) ≤ (s[p].toNat : Int)) = true := decide_eq_true (by omega)
                have d2 : decide ((s[p].toNat : Int) ≤ (122 : Int)) = false := decide_eq_false (by omega)
                have d3 : decide ((48 : Int) ≤ (s[p].toNat : Int)) = true := decide_eq_true (by omega)
                have d4 : decide ((s[p].toNat : Int) ≤ (57 : Int)) = false := decide_eq_false (by omega)
                clear hlo ha hdi h97
                rcases hp0 with hp0 | hp0
                all_goals
                  go_wp2_with fail
                  go_ret
                  exact ⟨ret_bool HF.out.symm, (Below.refl _ _).alloc (Nat.le_refl _) _⟩
              · by_cases h48 : 48 ≤ s[p].toNat
                · have d1 : decide ((97 : Int) ≤ (s[p].toNat : Int)) = false := decide_eq_false (by omega)
                  have d3 : decide ((48 : Int) ≤ (s[p].toNat : Int)) = true := decide_eq_true (by omega)
                  have d4 : decide ((s[p].toNat : Int) ≤ (57 : Int)) = false := decide_eq_false (by omega)
                  clear hlo ha hdi h97 h48
                  rcases hp0 with hp0 | hp0
                  all_goals
                    go_wp2_with fail
                    go_ret
                    exact ⟨ret_bool HF.out.symm, (Below.refl _ _).alloc (Nat.le_refl _) _⟩
                · have d1 : decide ((97 : Int) ≤ (s[p].toNat : Int)) = false := decide_eq_false (by omega)
                  have d3 : decide ((48 : Int) ≤ (s[p].toNat : Int)) = false := decide_eq_false (by omega)
                  clear hlo ha hdi h97 h48
                  rcases hp0 with hp0 | hp0
                  all_goals
                    go_wp2_with fail
                    go_ret
                    exact ⟨ret_bool HF.out.symm, (Below.refl _ _).alloc (Nat.le_refl _) _⟩
        · have hhi := decode_high s p hlt (by omega)
          have HF : Hid (nameOk s.data.toList = false) := nm_none hlt (wordc_no (by omega) (by omega))
          have hnx := fun ty => run_next_any (P := Tryd.prog) w s p ty hlt
          generalize (Utf8.decode s p).1 = r at hhi hnx
          generalize (Utf8.decode s p).2 = dd at hhi hnx
          obtain ⟨hhi, _⟩ := hhi
          have d1 : decide ((97 : Int) ≤ (r : Int)) = true := decide_eq_true (by omega)
          have d2 : decide ((r : Int) ≤ (122 : Int)) = false := decide_eq_false (by omega)
          have d3 : decide ((48 : Int) ≤ (r : Int)) = true := decide_eq_true (by omega)
          have d4 : decide ((r : Int) ≤ (57 : Int)) = false := decide_eq_false (by omega)
          rcases hp0 with hp0 | hp0
          all_goals
            go_wp2_with fail
            go_ret
            exact ⟨ret_bool HF.out.symm, (Below.refl _ _).alloc (Nat.le_refl _) _⟩
      · have hnx := fun ty => run_next_end (P := Tryd.prog) w s p ty hlt
        have HF : Hid (nameOk s.data.toList = true) := nameOk_good _ (by simpa using hl1) (by simpa using hl2) (by rw [headLow_at _ (by simp; omega), bget s 0 (by omega)]; exact HN.out.2 (by omega) (by omega)) (fun i hi => by rw [bget s i (by simpa using hi)]; exact HN.out.1 i _ (by simp at hi; omega))
        go_wp2
        go_ret
        exact ⟨ret_bool HF.out.symm, (Below.refl _ _).alloc (Nat.le_refl _) _⟩
  · have HF : Hid (nameOk s.data.toList = false) := nameOk_bad_len _ (by simpa using hl)
    have hl' : s.size = 0 ∨ 8 < s.size := by omega
    clear hl
    rcases hl' with h | h
    all_goals
      go_enter Tryd.func43, Tryd.ntmps43
      go_wp2
      go_ret
      exact ⟨ret_bool HF.out.symm, Below.refl _ _⟩
end Go.Proofs.YtmfibpfnbhhoaaaDoor
