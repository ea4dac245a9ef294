/- The model's CalDue. -/
import Derived.Test.YtkemfifkjaclhaaDoorCA6a
namespace Go.Proofs.YtkemfifkjaclhaaDoor
set_option linter.unusedVariables false
set_option linter.unusedSimpArgs false
open Go.RowKit Go

set_option maxHeartbeats 1000000 in
theorem specCalDue (a : Option Addr) (len cap : Nat) (rs : List Rul) (t : Int) (w : World) (hr : IsRuls w a len cap rs) :
    Calls Tryd.prog 9 #[.slice a len cap, .int .i64 t] w fun e w' => e = .returned (.bool (calDue rs t)) ∧ Below w.heap.size w w' := by
  have HK := specCalOk a len cap rs w hr
  have HR : Hid (IsRuls w a len cap rs) := hr
  clear hr
  by_cases hok : calOk rs = true
  · rw [hok] at HK
    have HK : Hid _ := HK
    have HD : Hid (∀ w, IsRuls w a len cap rs → Calls Tryd.prog 24 #[.slice a len cap, .int .i64 t] w fun e w' => e = .returned (.bool (due rs t)) ∧ Below w.heap.size w w') := fun w h => l41Due a len cap rs t w h (calOk_rules hok)
    have HF : Hid (calDue rs t = due rs t) := by show _ = _; unfold calDue; rw [hok]; rfl
    go_enter Tryd.func9, Tryd.ntmps9
    go_wp2_with fail
    refine Calls.mono HK.out ?_
    rintro e w1 ⟨rfl, hw1⟩
    go_wp2_with fail
    refine (HD.out _ (HR.out.below hw1)).mono ?_
    rintro e w2 ⟨rfl, hw2⟩
    go_wp2_with fail
    go_ret
    refine ⟨?_, bcall hw1 hw1.size hw2⟩
    rw [HF.out]; rfl
  · have hok : calOk rs = false := by simpa using hok
    rw [hok] at HK
    have HK : Hid _ := HK
    have HF : Hid (calDue rs t = false) := by show _ = _; unfold calDue; rw [hok]; rfl
    go_enter Tryd.func9, Tryd.ntmps9
    go_wp2_with fail
    refine Calls.mono HK.out ?_
    rintro e w1 ⟨rfl, hw1⟩
    go_wp2_with fail
    go_ret
    refine ⟨?_, hw1⟩
    rw [HF.out]; rfl
end Go.Proofs.YtkemfifkjaclhaaDoor
