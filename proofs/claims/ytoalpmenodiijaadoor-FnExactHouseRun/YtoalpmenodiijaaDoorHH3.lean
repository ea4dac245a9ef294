/- The name of the run of a time: the model's HouseRun, the program's, and the law. -/
import Derived.Test.YtoalpmenodiijaaDoorHH2
import Derived.Test.YtoalpmenodiijaaDoorSHI
import Derived.Lib.AppendIntMem
namespace Go.Proofs.YtoalpmenodiijaaDoor
set_option linter.unusedVariables false
set_option linter.unusedSimpArgs false
open Go.RowKit Go

/-- The run of a time. -/
def runNm (s : ByteArray) (t : Int) : ByteArray := if planNm s = true ∧ (0 ≤ t ∧ t ≤ 100000) then s ++ itoB t else ⟨#[]⟩
theorem runNm_yes {s : ByteArray} {t : Int} (h : planNm s = true) (ht : 0 ≤ t ∧ t ≤ 100000) : runNm s t = s ++ itoB t := if_pos ⟨h, ht⟩
theorem runNm_no {s : ByteArray} {t : Int} (h : planNm s = false) : runNm s t = ⟨#[]⟩ := if_neg fun h' => by rw [h'.1] at h; cases h
theorem runNm_no2 {s : ByteArray} {t : Int} (h : ¬ (0 ≤ t ∧ t ≤ 100000)) : runNm s t = ⟨#[]⟩ := if_neg fun h' => h h'.2
theorem planNm_size {s : ByteArray} (h : planNm s = true) : s.size ≤ 2 := by
  simp only [planNm, Bool.and_eq_true, decide_eq_true_eq] at h; omega

set_option maxRecDepth 100000 in
set_option maxHeartbeats 1000000 in
theorem specHouseRun (s : ByteArray) (t : Int) (w : World) (hs : s.size ≤ maxLen) :
    Calls Tryd.prog 4 #[.string s, .int .i64 t] w fun e w' => e = .returned (.string (runNm s t)) ∧ Below w.heap.size w w' := by
  have HW : Hid (∀ w, Calls Tryd.prog 6 #[.string s] w fun e w' => e = .returned (.bool (planNm s)) ∧ w' = w) := fun w => l51Word s w hs
  have HI : Hid (∀ w, Calls Tryd.prog 7 #[.int .i64 t, .int .i64 0, .int .i64 100000] w fun e w' => e = .returned (.bool (decide (0 ≤ t ∧ t ≤ 100000))) ∧ w' = w) := fun w => l1In_d _ _ _ w
  by_cases hp : planNm s = true
  · by_cases ht : 0 ≤ t ∧ t ≤ 100000
    · have HD : Hid (∀ w, Calls Tryd.prog 8 #[.int .i64 t] w fun e w' => e = .returned (.string (itoB t)) ∧ Below w.heap.size w w') := fun w => l1Dec t (by omega) (by omega) w
      rw [runNm_yes hp ht]
      rw [hp] at HW
      rw [decide_eq_true ht] at HI
      have hz := planNm_size hp
      have hz2 := itoB_size t (by omega) (by omega)
      generalize itoB t = d at HD hz2 ⊢
      clear hp ht
      go_enter Tryd.func4, Tryd.ntmps4
      go_wp2_with first
        | (go_at_call 6; refine (HW.out _).mono ?_; rintro e w1 ⟨rfl, rfl⟩)
        | (go_at_call 7; refine (HI.out _).mono ?_; rintro e w1 ⟨rfl, rfl⟩)
        | (go_at_call 8; refine (HD.out _).mono ?_; rintro e w1 ⟨rfl, hw1⟩)
      go_ret
      exact ⟨rfl, hw1⟩
    · rw [runNm_no2 ht]
      rw [hp] at HW
      rw [decide_eq_false ht] at HI
      clear hp ht
      go_enter Tryd.func4, Tryd.ntmps4
      go_wp2_with first
        | (go_at_call 6; refine (HW.out _).mono ?_; rintro e w1 ⟨rfl, rfl⟩)
        | (go_at_call 7; refine (HI.out _).mono ?_; rintro e w1 ⟨rfl, rfl⟩)
      go_ret
      exact ⟨rfl, Below.refl _ _⟩
  · have hp : planNm s = false := by simpa using hp
    rw [runNm_no hp]
    rw [hp] at HW
    clear hp HI
    go_enter Tryd.func4, Tryd.ntmps4
    go_wp2_with (go_at_call 6; refine (HW.out _).mono ?_; rintro e w1 ⟨rfl, rfl⟩)
    go_ret
    exact ⟨rfl, Below.refl _ _⟩

set_option maxRecDepth 100000 in
theorem planIsOk (s : ByteArray) (w : World) (hs : s.size ≤ maxLen) :
    Calls Tryd.prog 10 #[.string s] w fun e w' => e = .returned (.bool (planNm s)) ∧ Below w.heap.size w w' := by
  have HL : Hid (∀ w, Calls Tryd.prog 13 #[.string s] w fun e w' => e = .returned (.bool (decide (1 ≤ s.size) && allLow s)) ∧ Below w.heap.size w w') := fun w => isLetters s w hs
  unfold maxLen at hs
  by_cases h : s.size ≤ 2
  · have he : planNm s = (decide (1 ≤ s.size) && allLow s) := by
      unfold planNm
      have : decide (1 ≤ (s.size : Int) ∧ (s.size : Int) ≤ 2) = decide (1 ≤ s.size) := decide_eq_decide.2 (by omega)
      rw [this, Bool.and_comm]
    rw [he]
    generalize (decide (1 ≤ s.size) && allLow s) = v at HL ⊢
    have d1 : decide ((s.size : Int) ≤ 2) = true := decide_eq_true (by omega)
    clear he
    go_enter Tryd.func10, Tryd.ntmps10
    go_wp2_with (go_at_call 13; refine (HL.out _).mono ?_; rintro e w1 ⟨rfl, hw1⟩)
    go_ret
    exact ⟨by simp, hw1⟩
  · have he : planNm s = false := by
      unfold planNm
      rw [decide_eq_false (by omega : ¬ (1 ≤ (s.size : Int) ∧ (s.size : Int) ≤ 2)), Bool.and_false]
    rw [he]
    have d1 : decide ((s.size : Int) ≤ 2) = false := decide_eq_false (by omega)
    clear he
    go_enter Tryd.func10, Tryd.ntmps10
    go_wp2
    go_ret
    exact ⟨rfl, Below.refl _ _⟩

/-- The library's table of powers of ten stands as its text lays it. -/
def TabP (w : World) : Prop := Lib.TabIs Tryd.prog w "internal/strconv.uint64pow10" .u64 Lib.pow10Tab
theorem TabP.below {w w' : World} (h : TabP w) (hb : Below w.heap.size w w') : TabP w' := Lib.tabBelow_of_tabIs h w' hb
theorem itoaP (n : Int) (h0 : -9223372036854775808 ≤ n) (h1 : n ≤ 9223372036854775807) (w : World) (ht : TabP w) :
    Calls Tryd.prog 12 #[.int .i64 n] w fun e w' => e = .returned (.string (itoB n)) ∧ Below w.heap.size w w' := by
  refine (strconv_Itoa n h0 h1 w ht).mono ?_
  rintro e w' ⟨rfl, k, os, rfl⟩
  exact ⟨rfl, Lib.below_grow _ _ (Nat.le_refl _) k os⟩

set_option maxRecDepth 100000 in
set_option maxHeartbeats 1000000 in
theorem planRunAt (s : ByteArray) (t : Int) (w : World) (hs : s.size ≤ maxLen) (hT : TabP w) :
    Calls Tryd.prog 9 #[.string s, .int .i64 t] w fun e w' => e = .returned (.string (runNm s t)) ∧ Below w.heap.size w w' := by
  have HT : Hid (TabP w) := hT
  have HW : Hid (∀ w, Calls Tryd.prog 10 #[.string s] w fun e w' => e = .returned (.bool (planNm s)) ∧ Below w.heap.size w w') := fun w => planIsOk s w hs
  have HI : Hid (∀ w, Calls Tryd.prog 11 #[.int .i64 t] w fun e w' => e = .returned (.bool (decide (0 ≤ t ∧ t ≤ 100000))) ∧ w' = w) := fun w => isTick _ w
  clear hT
  by_cases hp : planNm s = true
  · by_cases ht : 0 ≤ t ∧ t ≤ 100000
    · have HD : Hid (∀ w, TabP w → Calls Tryd.prog 12 #[.int .i64 t] w fun e w' => e = .returned (.string (itoB t)) ∧ Below w.heap.size w w') := fun w h => itoaP t (by omega) (by omega) w h
      rw [runNm_yes hp ht]
      rw [hp] at HW
      rw [decide_eq_true ht] at HI
      have hz := planNm_size hp
      have hz2 := itoB_size t (by omega) (by omega)
      generalize itoB t = d at HD hz2 ⊢
      clear hp ht
      go_enter Tryd.func9, Tryd.ntmps9
      go_wp2_with first
        | (go_at_call 10; refine (HW.out _).mono ?_; rintro e w1 ⟨rfl, hw1⟩)
        | (go_at_call 11; refine (HI.out _).mono ?_; rintro e w2 ⟨rfl, hw2⟩; subst w2)
        | (go_at_call 12; refine (HD.out _ (HT.out.below hw1)).mono ?_; rintro e w3 ⟨rfl, hw3⟩)
      go_ret
      exact ⟨rfl, hw1.trans (hw3.mono hw1.size)⟩
    · rw [runNm_no2 ht]
      rw [hp] at HW
      rw [decide_eq_false ht] at HI
      clear hp ht
      go_enter Tryd.func9, Tryd.ntmps9
      go_wp2_with first
        | (go_at_call 10; refine (HW.out _).mono ?_; rintro e w1 ⟨rfl, hw1⟩)
        | (go_at_call 11; refine (HI.out _).mono ?_; rintro e w2 ⟨rfl, hw2⟩; subst w2)
      go_ret
      exact ⟨rfl, hw1⟩
  · have hp : planNm s = false := by simpa using hp
    rw [runNm_no hp]
    rw [hp] at HW
    clear hp HI
    go_enter Tryd.func9, Tryd.ntmps9
    go_wp2_with (go_at_call 10; refine (HW.out _).mono ?_; rintro e w1 ⟨rfl, hw1⟩)
    go_ret
    exact ⟨rfl, hw1⟩

set_option maxRecDepth 100000 in
theorem implHouseRun (s : ByteArray) (t : Int) (w : World) (hs : s.size ≤ maxLen) (hT : TabP w) :
    Calls Tryd.prog 5 #[.string s, .int .i64 t] w fun e w' => e = .returned (.string (runNm s t)) ∧ Below w.heap.size w w' := by
  have HR : Hid (Calls Tryd.prog 9 #[.string s, .int .i64 t] w fun e w' => e = .returned (.string (runNm s t)) ∧ Below w.heap.size w w') := planRunAt s t w hs hT
  clear hT
  generalize runNm s t = r at HR ⊢
  go_enter Tryd.func5, Tryd.ntmps5
  go_wp2_with (go_at_call 9; refine Calls.mono HR.out ?_; rintro e w1 ⟨rfl, hw1⟩)
  go_ret
  exact ⟨rfl, hw1⟩

set_option maxRecDepth 100000 in
theorem lawHouseRun (s : ByteArray) (t : Int) (w : World) (hs : s.size ≤ maxLen) (hT : TabP w) :
    Calls Tryd.prog 3 #[.string s, .int .i64 t] w fun e w' => e = .returned (.bool true) ∧ Below w.heap.size w w' := by
  have HT : Hid (TabP w) := hT
  have H1 : Hid (∀ w, Calls Tryd.prog 4 #[.string s, .int .i64 t] w fun e w' => e = .returned (.string (runNm s t)) ∧ Below w.heap.size w w') := fun w => specHouseRun s t w hs
  have H2 : Hid (∀ w, TabP w → Calls Tryd.prog 5 #[.string s, .int .i64 t] w fun e w' => e = .returned (.string (runNm s t)) ∧ Below w.heap.size w w') := fun w h => implHouseRun s t w hs h
  clear hT
  unfold maxLen at hs
  generalize runNm s t = r at H1 H2
  by_cases h : s.size ≤ 1048576
  · have d1 : decide ((1048576 : Int) < (s.size : Int)) = false := decide_eq_false (by omega)
    go_enter Tryd.func3, Tryd.ntmps3
    go_wp2_with first
      | (go_at_call 4; refine (H1.out _).mono ?_; rintro e w1 ⟨rfl, hw1⟩)
      | (go_at_call 5; refine (H2.out _ (HT.out.below hw1)).mono ?_; rintro e w2 ⟨rfl, hw2⟩)
    go_ret
    exact ⟨rfl, hw1.trans (hw2.mono hw1.size)⟩
  · have d1 : decide ((1048576 : Int) < (s.size : Int)) = true := decide_eq_true (by omega)
    go_enter Tryd.func3, Tryd.ntmps3
    go_wp2
    go_ret
    exact ⟨rfl, Below.refl _ _⟩
end Go.Proofs.YtoalpmenodiijaaDoor
