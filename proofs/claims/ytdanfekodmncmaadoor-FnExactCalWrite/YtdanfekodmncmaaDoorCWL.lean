/- The law of CalWrite: what the program answers is what the model answers, and what was handed in reads as it did. -/
import Derived.Test.YtdanfekodmncmaaDoorCR3
import Derived.Test.YtdanfekodmncmaaDoorCW3
namespace Go.Proofs.YtdanfekodmncmaaDoor
set_option linter.unusedVariables false
set_option linter.unusedSimpArgs false
open Go.RowKit Go

set_option maxHeartbeats 1000000 in
theorem lawCalWrite (a : Option Addr) (len cap : Nat) (rs : List Rul) (w : World) (hr : IsRuls w a len cap rs)
    (hi : ∀ b w', Below w.heap.size w w' → IsRuls w' (some ⟨b, 0, none⟩) len len rs → len ≤ 1048576 → (∀ i (h : i < rs.length), rulSmall rs[i]) → Calls Tryd.prog 20 #[.slice (some ⟨b, 0, none⟩) len len] w' fun e w'' => e = .returned (.string (calW rs)) ∧ Below w'.heap.size w' w'') :
    Calls Tryd.prog 7 #[.slice a len cap] w fun e w' => e = .returned (.bool true) ∧ Below w.heap.size w w' := by
  have HSZ : Hid (∀ w, IsRuls w a len cap rs → Calls Tryd.prog 8 #[.slice a len cap, .int .i64 1048576] w fun e w' => (∃ r : Int, e = .returned (.int .i64 r) ∧ -1 ≤ r ∧ r ≤ 1048576 ∧ (0 ≤ r → len ≤ 1048576 ∧ ∀ i (h : i < rs.length), rulSmall rs[i])) ∧ Below w.heap.size w w') :=
    fun w h => szCalRuleS a len cap rs w h
  have HTO : Hid (∀ w, IsRuls w a len cap rs → len ≤ 1048576 → (∀ i (h : i < rs.length), rulSmall rs[i]) → Calls Tryd.prog 10 #[.slice a len cap] w fun e w' => e = .returned (.slice (some ⟨w.heap.size, 0, none⟩) len len) ∧ IsRuls w' (some ⟨w.heap.size, 0, none⟩) len len rs ∧ Below w.heap.size w w') :=
    fun w h1 h2 h3 => toCalRuleS a len cap rs w h1 h2 h3
  have HS : Hid (∀ b w, IsRuls w (some ⟨b, 0, none⟩) len len rs → Calls Tryd.prog 19 #[.slice (some ⟨b, 0, none⟩) len len] w fun e w' => e = .returned (.string (calW rs)) ∧ Below w.heap.size w w') :=
    fun b w h => specCalWrite _ len len rs w h
  have HI : Hid (∀ b w', Below w.heap.size w w' → IsRuls w' (some ⟨b, 0, none⟩) len len rs → len ≤ 1048576 → (∀ i (h : i < rs.length), rulSmall rs[i]) → Calls Tryd.prog 20 #[.slice (some ⟨b, 0, none⟩) len len] w' fun e w'' => e = .returned (.string (calW rs)) ∧ Below w'.heap.size w' w'') := hi
  clear hi
  have HQ : Hid (∀ b b2 w, IsRuls w (some ⟨b, 0, none⟩) len len rs → IsRuls w (some ⟨b2, 0, none⟩) len len rs → Calls Tryd.prog 12 #[.slice (some ⟨b, 0, none⟩) len len, .slice (some ⟨b2, 0, none⟩) len len] w fun e w' => e = .returned (.bool true) ∧ Below w.heap.size w w') :=
    fun b b2 w h1 h2 => eqCalRuleS _ _ len len len rs w h1 h2
  have HR : Hid (IsRuls w a len cap rs) := hr
  clear hr
  generalize calW rs = v at HS HI
  go_enter Tryd.func7, Tryd.ntmps7
  go_wp2_with fail
  refine (HSZ.out _ HR.out).mono ?_
  rintro e w1 ⟨⟨r, rfl, hr1, hr2, hr3⟩, hb1⟩
  by_cases h0 : r < 0
  · go_wp2_with fail
    go_ret
    exact ⟨rfl, hb1⟩
  · obtain ⟨hlen, hsm⟩ := hr3 (by omega)
    have HSM : Hid (∀ i (h : i < rs.length), rulSmall rs[i]) := hsm
    clear hr3 hsm
    go_wp2_with fail
    refine (HTO.out _ (HR.out.below hb1) hlen HSM.out).mono ?_
    rintro e w2 ⟨rfl, hn2, hb2⟩
    replace hb2 := bcall hb1 hb1.size hb2
    go_wp2_with fail
    refine (HS.out _ _ hn2).mono ?_
    rintro e w3 ⟨rfl, hb3⟩
    replace hb3 := bcall hb2 hb2.size hb3
    clear hn2
    go_wp2_with fail
    refine (HTO.out _ (HR.out.below hb3) hlen HSM.out).mono ?_
    rintro e w4 ⟨rfl, hn4, hb4⟩
    replace hb4 := bcall hb3 hb3.size hb4
    go_wp2_with fail
    refine (HI.out _ _ hb4 hn4 hlen HSM.out).mono ?_
    rintro e w5 ⟨rfl, hb5⟩
    have hn5 := hn4.below hb5
    replace hb5 := bcall hb4 hb4.size hb5
    clear hn4
    go_wp2_with fail
    refine (HTO.out _ (HR.out.below hb5) hlen HSM.out).mono ?_
    rintro e w6 ⟨rfl, hn6, hb6⟩
    go_wp2_with fail
    refine (HQ.out _ _ _ (hn5.below hb6) hn6).mono ?_
    rintro e w7 ⟨rfl, hb7⟩
    go_wp2_with fail
    go_ret
    exact ⟨rfl, bcall (bcall hb5 hb5.size hb6) (by have := hb5.size; have := hb6.size; omega) hb7⟩
end Go.Proofs.YtdanfekodmncmaaDoor
