/- The program's own calendars: which are ok. -/
import Derived.Test.YtkemfifkjaclhaaDoorCI3a
import Derived.Test.YtkemfifkjaclhaaDoorAS2
namespace Go.Proofs.YtkemfifkjaclhaaDoor
set_option linter.unusedVariables false
set_option linter.unusedSimpArgs false
open Go.RowKit Go

set_option maxHeartbeats 1000000 in
theorem implCalOk (a : Option Addr) (len cap : Nat) (rs : List Rul) (w : World) (hr : IsRuls w a len cap rs) (hg : ErrT w) :
    Calls Tryd.prog 14 #[.slice a len cap] w fun e w' => e = .returned (.bool (calOk rs)) ∧ Below w.heap.size w w' := by
  have HL : Hid (∀ w, IsRuls w a len cap rs → Calls Tryd.prog 27 #[.slice a len cap] w fun e w' => Looked e rs ∧ Below w.heap.size w w') := fun w h => lookedAtRules a len cap rs w h
  have HR : Hid (IsRuls w a len cap rs) := hr
  have HG : Hid (ErrT w) := hg
  clear hr hg
  go_enter Tryd.func14, Tryd.ntmps14
  go_wp2_with fail
  refine (HL.out _ (IsRuls.alloc HR.out _)).mono ?_
  rintro e w1 ⟨(⟨rfl, hk⟩ | ⟨z, rfl, hk⟩), hb⟩
  · have HK : Hid (calOk rs = true) := hk
    clear hk
    go_wp2_with (go_at_call 26; refine (as_nil _ _).mono ?_; rintro e w2 ⟨rfl, rfl⟩)
    go_ret
    exact ⟨ret_bool HK.out.symm, bcall ((Below.refl _ _).alloc (Nat.le_refl _) _) (by simp) hb⟩
  · have HK : Hid (calOk rs = false) := hk
    have hb0 : Below w.heap.size w w1 := bcall ((Below.refl _ _).alloc (Nat.le_refl _) _) (by simp) hb
    have hg1 : ErrT w1 := HG.out.below hb0
    have hc : w1.cell? ⟨w.heap.size, 0, none⟩ = some (.int .i64 0) := by rw [(bcell hb).1 _ _ (by simp)]; simp
    have hf : w1.frozen? ⟨w.heap.size, 0, none⟩ = false := by rw [(bcell hb).2 _ _ (by simp)]; simp
    clear hk
    go_wp2_with fail
    refine (as_hit z _ _ _ hg1 hc hf).mono ?_
    rintro e w2 ⟨rfl, rfl⟩
    go_wp2_with fail
    go_ret
    refine ⟨ret_bool HK.out.symm, ?_⟩
    have h1 := hb0.size
    exact ((((hb0.alloc h1 _).alloc (by simp; omega) _).alloc (by simp; omega) _).alloc (by simp; omega) _).setCell (by simp) _
end Go.Proofs.YtkemfifkjaclhaaDoor
