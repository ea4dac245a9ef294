/- Names of runs of times: the program's isLetters, over strings.ContainsFunc. -/
import Derived.Test.YtoalpmenodiijaaDoorHH1
namespace Go.Proofs.YtoalpmenodiijaaDoor
set_option linter.unusedVariables false
set_option linter.unusedSimpArgs false
open Go.RowKit Go

set_option maxHeartbeats 400000 in
theorem isOther (r : Int) (w : World) :
    Calls Tryd.prog 16 #[.int .i32 r] w fun e w' => e = .returned (.bool (decide (r < 97) || decide (122 < r))) ∧ w' = w := by
  by_cases h1 : r < 97
  · have d1 : decide (r < 97) = true := decide_eq_true h1
    rw [d1]
    go_enter Tryd.func16, Tryd.ntmps16
    go_wp2
    go_ret
    exact ⟨by simp, rfl⟩
  · have d1 : decide (r < 97) = false := decide_eq_false h1
    rw [d1]
    by_cases h2 : 122 < r
    all_goals
      go_enter Tryd.func16, Tryd.ntmps16
      go_wp2
      go_ret
      exact ⟨by simp [h2], rfl⟩

/-- Where the first byte is that is no small letter; below 0, if there is none. -/
def Finds (s : ByteArray) (r : Int) : Prop := decide (0 ≤ r) = !allLow s

set_option maxRecDepth 100000 in
set_option maxHeartbeats 1000000 in
theorem indexFunc (s : ByteArray) (w : World) (hs : s.size ≤ maxLen) :
    Calls Tryd.prog 24 #[.string s, .func (.func 16) #[] #[], .bool true] w fun e w' => (∃ r : Int, e = .returned (.int .i64 r) ∧ Finds s r) ∧ Below w.heap.size w w' := by
  unfold maxLen at hs
  go_enter Tryd.func24, Tryd.ntmps24
  go_wp2
  go_loopw [] (fun wr => ∃ p : Nat, p ≤ s.size ∧ lowTo s p ∧ wr = w.iter s p) (fun wr => s.size - wr.iterPos w.heap.size)
  case atStart => exact ⟨0, Nat.zero_le _, fun j _ h => by omega, rfl⟩
  case round =>
    obtain ⟨p, hp, hT, hwr⟩ := hrel
    have HT : Hid (lowTo s p) := hT
    clear hT
    subst hwr
    by_cases hlt : p < s.size
    · by_cases ha : s[p].toNat < 128
      · have hnx := fun ty => run_next_ascii (P := Tryd.prog) w s p ty hlt ha
        by_cases hc : lowC s[p] = true
        · have HR : Hid (lowTo s (p + 1)) := lowTo_step hlt HT.out hc
          have HO : Hid (∀ w, Calls Tryd.prog 16 #[.int .i32 (s[p].toNat : Int)] w fun e w' => e = .returned (.bool false) ∧ w' = w) := fun w => by
            have := isOther (s[p].toNat : Int) w
            have hc' := lowC_yes hc
            rwa [decide_eq_false (by omega : ¬ (s[p].toNat : Int) < 97), decide_eq_false (by omega : ¬ (122 : Int) < (s[p].toNat : Int))] at this
          clear hc ha
          go_wp2_with (go_at_call 16; refine (HO.out _).mono ?_; rintro e w1 ⟨rfl, rfl⟩)
          go_roundw
          case rel => exact ⟨p + 1, by omega, HR.out, rfl⟩
          case measure => simp; omega
        · have HF : Hid (∀ r : Int, 0 ≤ r → Finds s r) := fun r h => by unfold Finds; rw [decide_eq_true h, lowTo_none hlt (by simpa using hc)]; rfl
          have HO : Hid (∀ w, Calls Tryd.prog 16 #[.int .i32 (s[p].toNat : Int)] w fun e w' => e = .returned (.bool true) ∧ w' = w) := fun w => by
            have := isOther (s[p].toNat : Int) w
            have hc' := lowC_no (by simpa using hc : lowC s[p] = false)
            have hd : (decide ((s[p].toNat : Int) < 97) || decide ((122 : Int) < (s[p].toNat : Int))) = true := by simp; omega
            rwa [hd] at this
          clear hc ha
          go_wp2_with (go_at_call 16; refine (HO.out _).mono ?_; rintro e w1 ⟨rfl, rfl⟩)
          go_ret
          exact ⟨⟨_, rfl, HF.out _ (by omega)⟩, (Below.refl _ _).alloc (Nat.le_refl _) _⟩
      · have hhi := decode_high s p hlt (by omega)
        have HF : Hid (∀ r : Int, 0 ≤ r → Finds s r) := fun r h => by
          unfold Finds
          rw [decide_eq_true h, lowTo_none hlt (by simp [lowC]; omega)]; rfl
        have hnx := fun ty => run_next_any (P := Tryd.prog) w s p ty hlt
        generalize (Utf8.decode s p).1 = r at hhi hnx
        generalize (Utf8.decode s p).2 = dd at hhi hnx
        obtain ⟨hhi, _⟩ := hhi
        have HO : Hid (∀ w, Calls Tryd.prog 16 #[.int .i32 (r : Int)] w fun e w' => e = .returned (.bool true) ∧ w' = w) := fun w => by
          have := isOther (r : Int) w
          have hd : (decide ((r : Int) < 97) || decide ((122 : Int) < (r : Int))) = true := by simp; omega
          rwa [hd] at this
        clear hhi
        go_wp2_with (go_at_call 16; refine (HO.out _).mono ?_; rintro e w1 ⟨rfl, rfl⟩)
        go_ret
        exact ⟨⟨_, rfl, HF.out _ (by omega)⟩, (Below.refl _ _).alloc (Nat.le_refl _) _⟩
    · have hnx := fun ty => run_next_end (P := Tryd.prog) w s p ty hlt
      have HF : Hid (Finds s (-1)) := by show Finds s (-1); unfold Finds; rw [lowTo_all hlt HT.out]; rfl
      go_wp2
      go_ret
      exact ⟨⟨_, rfl, HF.out⟩, (Below.refl _ _).alloc (Nat.le_refl _) _⟩

set_option maxRecDepth 100000 in
theorem isLetters (s : ByteArray) (w : World) (hs : s.size ≤ maxLen) :
    Calls Tryd.prog 13 #[.string s] w fun e w' => e = .returned (.bool (decide (1 ≤ s.size) && allLow s)) ∧ Below w.heap.size w w' := by
  have HI : Hid (∀ w, Calls Tryd.prog 17 #[.string s, .func (.func 16) #[] #[]] w fun e w' => e = .returned (.bool (!allLow s)) ∧ Below w.heap.size w w') := by
    intro w
    have H1 : Hid (∀ w, Calls Tryd.prog 19 #[.string s, .func (.func 16) #[] #[]] w fun e w' => (∃ r : Int, e = .returned (.int .i64 r) ∧ Finds s r) ∧ Below w.heap.size w w') := by
      intro w
      have H0 : Hid (∀ w, Calls Tryd.prog 24 #[.string s, .func (.func 16) #[] #[], .bool true] w fun e w' => (∃ r : Int, e = .returned (.int .i64 r) ∧ Finds s r) ∧ Below w.heap.size w w') := fun w => indexFunc s w hs
      go_enter Tryd.func19, Tryd.ntmps19
      go_wp2_with (go_at_call 24; refine (H0.out _).mono ?_; rintro e w1 ⟨⟨r, rfl, hr⟩, hw1⟩; have hr : Hid (Finds s r) := hr)
      go_ret
      exact ⟨⟨r, rfl, hr.out⟩, hw1⟩
    go_enter Tryd.func17, Tryd.ntmps17
    go_wp2_with (go_at_call 19; refine (H1.out _).mono ?_; rintro e w1 ⟨⟨r, rfl, hr⟩, hw1⟩; have hr : Hid (Finds s r) := hr)
    go_ret
    exact ⟨ret_bool hr.out, hw1⟩
  by_cases h : s.size = 0
  · obtain rfl : s = ⟨#[]⟩ := by
      have : s.data = #[] := Array.eq_empty_of_size_eq_zero h
      cases s; simp_all
    go_enter Tryd.func13, Tryd.ntmps13
    go_wp2
    go_ret
    exact ⟨rfl, Below.refl _ _⟩
  · have hl : s.toList.length = s.size := by rw [ByteArray.toList_eq]; simp
    have he : s.toList.isEmpty = false := by
      cases e : s.toList with
      | nil => rw [e] at hl; simp at hl; omega
      | cons a b => rfl
    have hne : (s.toList = []) = False := eq_false fun e => by rw [e] at hl; simp at hl; omega
    clear hl
    have hd : decide (1 ≤ s.size) = true := decide_eq_true (by omega)
    rw [hd]
    clear h hd
    generalize allLow s = v at HI
    go_enter Tryd.func13, Tryd.ntmps13
    go_wp2_with (go_at_call 17; refine (HI.out _).mono ?_; rintro e w1 ⟨rfl, hw1⟩)
    go_ret
    exact ⟨by simp, hw1⟩
end Go.Proofs.YtoalpmenodiijaaDoor
