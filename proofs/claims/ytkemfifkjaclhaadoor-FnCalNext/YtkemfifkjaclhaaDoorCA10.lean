/- The model's CalNext. -/
import Derived.Test.YtkemfifkjaclhaaDoorCA10a
namespace Go.Proofs.YtkemfifkjaclhaaDoor
set_option linter.unusedVariables false
set_option linter.unusedSimpArgs false
open Go.RowKit Go

set_option maxHeartbeats 1000000 in
theorem specCalNext (a : Option Addr) (len cap : Nat) (rs : List Rul) (t : Int) (w : World) (hr : IsRuls w a len cap rs) :
    Calls Tryd.prog 7 #[.slice a len cap, .int .i64 t] w fun e w' => e = .returned (.int .i64 (calNext rs t)) ∧ Below w.heap.size w w' := by
  have HK := specCalOk a len cap rs w hr
  have HR : Hid (IsRuls w a len cap rs) := hr
  clear hr
  by_cases hok : calOk rs = true
  · rw [hok] at HK
    have HK : Hid _ := HK
    by_cases hbig : 100000 < t
    · have HF : Hid (calNext rs t = -1) := calNext_eq (.inl ⟨rfl, fun u h1 h2 => by have := due_bd h2; omega⟩)
      go_enter Tryd.func7, Tryd.ntmps7
      go_wp2_with fail
      refine Calls.mono HK.out ?_
      rintro e w1 ⟨rfl, hw1⟩
      go_wp2_with fail
      go_ret
      exact ⟨by rw [HF.out]; rfl, hw1⟩
    · by_cases hlow : t < -1
      · have HD : Hid (∀ w, IsRuls w a len cap rs → Calls Tryd.prog 20 #[.slice a len cap, .int .i64 (-1)] w fun e w' => e = .returned (.int .i64 (calNext rs t)) ∧ Below w.heap.size w w') := fun w h => (l41Next a len cap rs (-1) w h (calOk_rules hok) (by omega)).mono fun e w' ⟨⟨n, he, hn⟩, hb⟩ => ⟨by
          rw [he]
          have hn' : IsNext rs t n := by
            rcases hn.congr (ofTo_due hok) with ⟨rfl, h⟩ | ⟨h1, h2, h3⟩
            · exact .inl ⟨rfl, fun u _ h4 => h u (by have := due_bd h4; omega) h4⟩
            · exact .inr ⟨h1, by omega, fun u _ h5 h6 => h3 u (by have := due_bd h6; omega) h5 h6⟩
          rw [calNext_eq hn'], hb⟩
        go_enter Tryd.func7, Tryd.ntmps7
        go_wp2_with fail
        refine Calls.mono HK.out ?_
        rintro e w1 ⟨rfl, hw1⟩
        go_wp2_with fail
        refine (HD.out _ (HR.out.below hw1)).mono ?_
        rintro e w2 ⟨rfl, hw2⟩
        go_wp2_with fail
        go_ret
        exact ⟨rfl, bcall hw1 hw1.size hw2⟩
      · have HD : Hid (∀ w, IsRuls w a len cap rs → Calls Tryd.prog 20 #[.slice a len cap, .int .i64 t] w fun e w' => e = .returned (.int .i64 (calNext rs t)) ∧ Below w.heap.size w w') := fun w h => (l41Next a len cap rs t w h (calOk_rules hok) (by omega)).mono fun e w' ⟨⟨n, he, hn⟩, hb⟩ => ⟨by
          rw [he, calNext_eq (show IsNext rs t n from hn.congr (ofTo_due hok))], hb⟩
        go_enter Tryd.func7, Tryd.ntmps7
        go_wp2_with fail
        refine Calls.mono HK.out ?_
        rintro e w1 ⟨rfl, hw1⟩
        go_wp2_with fail
        refine (HD.out _ (HR.out.below hw1)).mono ?_
        rintro e w2 ⟨rfl, hw2⟩
        go_wp2_with fail
        go_ret
        exact ⟨rfl, bcall hw1 hw1.size hw2⟩
  · have hok : calOk rs = false := by simpa using hok
    rw [hok] at HK
    have HK : Hid _ := HK
    have HF : Hid (calNext rs t = -1) := calNext_eq (.inl ⟨rfl, fun u h1 h2 => by unfold calDue at h2; rw [hok] at h2; cases h2⟩)
    go_enter Tryd.func7, Tryd.ntmps7
    go_wp2_with fail
    refine Calls.mono HK.out ?_
    rintro e w1 ⟨rfl, hw1⟩
    go_wp2_with fail
    go_ret
    exact ⟨by rw [HF.out]; rfl, hw1⟩
end Go.Proofs.YtkemfifkjaclhaaDoor
