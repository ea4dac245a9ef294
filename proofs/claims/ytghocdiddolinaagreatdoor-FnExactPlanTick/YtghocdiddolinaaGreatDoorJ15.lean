/- The program's own rules: numbers that lie within two, that ascend, that are ticks. -/
import Derived.Test.YtghocdiddolinaaGreatDoorJ14
namespace Go.Proofs.YtghocdiddolinaaGreatDoor
set_option linter.unusedVariables false
set_option linter.unusedSimpArgs false
open Go.RowKit Go

theorem asItIs (z : Int) (w : World) : Calls Tryz.prog 76 #[.int .i64 z] w fun e w' => e = .returned (.int .i64 z) ∧ w' = w := by
  go_enter Tryz.func76, Tryz.ntmps76
  go_wp2
  go_ret
  exact ⟨rfl, rfl⟩

/-- What is said is whether P. -/
def SaysIf (e : Ending) (P : Prop) : Prop := ∃ v : Bool, e = .returned (.bool v) ∧ (v = true ↔ P)
def Asc (zs : List Int) : Prop := ∀ i, i < zs.length → 0 < i → zs.getD (i - 1) 0 < zs.getD i 0
def Ticks (zs : List Int) : Prop := ∀ i, i < zs.length → 0 ≤ zs.getD i 0 ∧ zs.getD i 0 ≤ 100000

set_option maxHeartbeats 1000000 in
theorem allHoldTick (a : Option Addr) (len cap : Nat) (zs : List Int) (w : World) (hr : IsRow .i64 w a len cap zs) :
    Calls Tryz.prog 89 #[.slice a len cap, .func (.func 80) #[] #[]] w fun e w' => SaysIf e (Ticks zs) ∧ w' = w := by
  obtain ⟨hz, hm⟩ := hr.len
  unfold maxLen at hm
  have HR : Hid (IsRow .i64 w a len cap zs) := hr
  clear hr
  go_enter Tryz.func89, Tryz.ntmps89
  go_wp2
  go_loop [9] (fun i => ∃ k : Nat, k ≤ len ∧ i = .int .i64 k ∧ ∀ i, i < k → 0 ≤ zs.getD i 0 ∧ zs.getD i 0 ≤ 100000) (fun i => len - (intOf i).toNat)
  case atStart => exact ⟨0, Nat.zero_le _, rfl, fun i h => by omega⟩
  case round =>
    obtain ⟨k, hk, rfl, hn⟩ := hrel
    have HN : Hid (∀ i, i < k → 0 ≤ zs.getD i 0 ∧ zs.getD i 0 ≤ 100000) := hn
    clear hn
    by_cases hlt : k < len
    · obtain ⟨b, off, rfl, h1, h2, hc⟩ := IsRow.at HR.out hlt
      have HT := isTick (zs.getD k 0) w
      by_cases hin : 0 ≤ zs.getD k 0 ∧ zs.getD k 0 ≤ 100000
      · have HN1 : Hid (∀ i, i < k + 1 → 0 ≤ zs.getD i 0 ∧ zs.getD i 0 ≤ 100000) := fun i hi => by
          by_cases e : i = k
          · subst e; exact hin
          · exact HN.out i (by omega)
        rw [decide_eq_true hin] at HT
        have HT : Hid _ := HT
        clear hin
        generalize zs.getD k 0 = z at hc HT
        go_wp2_with (go_at_call 80; refine Calls.mono HT.out ?_; rintro e w1 ⟨rfl, rfl⟩)
        go_round
        case rel => exact ⟨k + 1, by omega, by go_num, HN1.out⟩
        case measure => simp [intOf]; omega
      · have HF : Hid (¬ Ticks zs) := fun h => hin (h k (by omega))
        rw [decide_eq_false hin] at HT
        have HT : Hid _ := HT
        clear hin
        generalize zs.getD k 0 = z at hc HT
        go_wp2_with (go_at_call 80; refine Calls.mono HT.out ?_; rintro e w1 ⟨rfl, rfl⟩)
        go_ret
        exact ⟨⟨false, rfl, by simpa using HF.out⟩, rfl⟩
    · have HF : Hid (Ticks zs) := fun i hi => HN.out i (by omega)
      go_wp2
      go_ret
      exact ⟨⟨true, rfl, by simpa using HF.out⟩, rfl⟩

set_option maxHeartbeats 1000000 in
theorem ascendsInt (a : Option Addr) (len cap : Nat) (zs : List Int) (w : World) (hr : IsRow .i64 w a len cap zs) :
    Calls Tryz.prog 88 #[.slice a len cap, .func (.func 76) #[] #[]] w fun e w' => SaysIf e (Asc zs) ∧ ∃ q, w' = w.drewN q := by
  obtain ⟨hz, hm⟩ := hr.len
  unfold maxLen at hm
  have HR : Hid (IsRow .i64 w a len cap zs) := hr
  clear hr
  have HI : Hid (∀ z w, Calls Tryz.prog 76 #[.int .i64 z] w fun e w' => e = .returned (.int .i64 z) ∧ w' = w) := asItIs
  go_enter Tryz.func88, Tryz.ntmps88
  go_wp2
  go_loopw [5] (fun i wr => ∃ k q : Nat, 0 < k ∧ (k ≤ len ∨ k = 1) ∧ i = .int .i64 k ∧ (∀ i, i < k → i < zs.length → 0 < i → zs.getD (i - 1) 0 < zs.getD i 0) ∧ wr = w.drewN q) (fun i _ => len - (intOf i).toNat)
  case atStart => exact ⟨1, 0, by omega, .inr rfl, rfl, fun i h _ _ => by omega, rfl⟩
  case round =>
    obtain ⟨k, q, hk0, hk, rfl, hn, rfl⟩ := hrel
    have HN : Hid (∀ i, i < k → i < zs.length → 0 < i → zs.getD (i - 1) 0 < zs.getD i 0) := hn
    clear hn
    by_cases hlt : k < len
    · obtain ⟨j, rfl⟩ : ∃ j, k = j + 1 := ⟨k - 1, by omega⟩
      obtain ⟨b, off, rfl, h1, h2, hc⟩ := IsRow.at HR.out hlt
      obtain ⟨b', off', e', _, _, hcj⟩ := IsRow.at HR.out (i := j) (by omega)
      cases e'
      by_cases hlt2 : zs.getD j 0 < zs.getD (j + 1) 0
      · have HN1 : Hid (∀ i, i < j + 1 + 1 → i < zs.length → 0 < i → zs.getD (i - 1) 0 < zs.getD i 0) := fun i hi h3 h4 => by
          by_cases e : i = j + 1
          · subst e; exact hlt2
          · exact HN.out i (by omega) h3 h4
        generalize zs.getD (j + 1) 0 = z at hc hlt2
        generalize zs.getD j 0 = y at hcj hlt2
        have hd : decide (z ≤ y) = false := decide_eq_false (by omega)
        go_wp2_with fail
        go_quiet ((go_at_call 76; exact quiet_again (HI.out _ _)))
        go_wp2_with fail
        go_roundw
        case rel => exact ⟨j + 1 + 1, _, by omega, .inl (by omega), by go_num, HN1.out, rfl⟩
        case measure => simp [intOf]; omega
      · have HF : Hid (¬ Asc zs) := fun h => hlt2 (h (j + 1) (by omega) (by omega))
        generalize zs.getD (j + 1) 0 = z at hc hlt2
        generalize zs.getD j 0 = y at hcj hlt2
        have hd : z ≤ y := by omega
        clear hlt2
        go_wp2_with fail
        go_quiet ((go_at_call 76; exact quiet_again (HI.out _ _)))
        go_wp2_with fail
        go_ret
        exact ⟨⟨false, rfl, by simpa using HF.out⟩, ⟨_, World.drewN_drewN _ _ _⟩⟩
    · have HF : Hid (Asc zs) := fun i hi h0 => HN.out i (by omega) hi h0
      go_wp2
      go_ret
      exact ⟨⟨true, rfl, by simpa using HF.out⟩, _, rfl⟩
end Go.Proofs.YtghocdiddolinaaGreatDoor
