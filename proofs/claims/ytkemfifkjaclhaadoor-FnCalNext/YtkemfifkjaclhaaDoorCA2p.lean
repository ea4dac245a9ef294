/- The model's calendars: which are ok. -/
import Derived.Test.YtkemfifkjaclhaaDoorCA1
import Derived.Deep.RegionWith
import Derived.BigGuard
import Derived.BigRegion
namespace Go.Proofs.YtkemfifkjaclhaaDoor
set_option linter.unusedVariables false
set_option linter.unusedSimpArgs false
open Go.RowKit Go

def CalOk (rs : List Rul) : Prop := (∀ i (h : i < rs.length), RuleOk rs[i]) ∧ 1 ≤ rs.length ∧ rs.length ≤ 4
def calOk (rs : List Rul) : Bool := rs.all ruleOk && decide ((1 : Int) ≤ (rs.length : Int) ∧ (rs.length : Int) ≤ 4)
theorem calOk_no {rs : List Rul} {k : Nat} (hk : k < rs.length) (h : ruleOk rs[k] = false) : calOk rs = false := by
  have : rs.all ruleOk = false := by rw [List.all_eq_false]; exact ⟨rs[k], List.getElem_mem hk, by simp [h]⟩
  simp [calOk, this]
theorem calOk_all {rs : List Rul} (h : ∀ i (hi : i < rs.length), ruleOk rs[i] = true) : calOk rs = decide ((1 : Int) ≤ (rs.length : Int) ∧ (rs.length : Int) ≤ 4) := by
  have : rs.all ruleOk = true := by rw [List.all_eq_true]; intro x hx; obtain ⟨i, hi, rfl⟩ := List.mem_iff_getElem.1 hx; exact h i hi
  simp only [calOk, this, Bool.true_and]
theorem calOk_rules {rs : List Rul} (h : calOk rs = true) : ∀ i (hi : i < rs.length), RuleOk rs[i] := by
  intro i hi
  simp only [calOk, Bool.and_eq_true, List.all_eq_true] at h
  have := h.1 _ (List.getElem_mem hi)
  simpa [ruleOk] using this

set_option maxHeartbeats 1000000 in
theorem specCalOk (a : Option Addr) (len cap : Nat) (rs : List Rul) (w : World) (hr : IsRuls w a len cap rs) :
    Calls Tryd.prog 15 #[.slice a len cap] w fun e w' => e = .returned (.bool (calOk rs)) ∧ Below w.heap.size w w' := by
  obtain ⟨hz, hm⟩ := IsRecs.len hr
  unfold maxLen at hm
  have HR : Hid (IsRuls w a len cap rs) := hr
  clear hr
  have HI : Hid (∀ n lo hi w, Calls Tryd.prog 29 #[.int .i64 n, .int .i64 lo, .int .i64 hi] w fun x w' => x = .returned (.bool (decide (lo ≤ n ∧ n ≤ hi))) ∧ w' = w) := l41In
  go_enter Tryd.func15, Tryd.ntmps15
  go_wp2
  go_loopw [3] (fun i wr => ∃ q : Nat, i = .int .i64 q ∧ q ≤ len ∧ (∀ i (hi : i < rs.length), i < q → ruleOk rs[i] = true) ∧ Below w.heap.size w wr) (fun i _ => len - (intOf i).toNat)
  case atStart => exact ⟨0, rfl, Nat.zero_le _, fun i _ h => by omega, Below.refl _ _⟩
  case round =>
    obtain ⟨q, rfl, hq, hok, hb⟩ := hrel
    by_cases hlt : q < len
    · obtain ⟨b, off, rfl, h1, hbl, a1, l1, k1, c0, c1, c2, c3, c4, hrow1, _⟩ := IsRuls.at (IsRuls.below HR.out hb) (i := q) (by omega)
      have HE := l41RuleOk rs[q] a1 l1 k1 wr hrow1
      by_cases hy : ruleOk rs[q] = true
      · have HOK : Hid (∀ i (hi : i < rs.length), i < q + 1 → ruleOk rs[i] = true) := fun i hi hiq => by
          by_cases e : i = q
          · subst e; exact hy
          · exact hok i hi (by omega)
        rw [hy] at HE
        have HE : Hid _ := HE
        clear hok hy
        go_wp2_with fail
        refine Calls.mono HE.out ?_
        rintro e w1 ⟨rfl, hw1⟩
        go_wp2_with fail
        go_roundw
        case rel => exact ⟨q + 1, by go_num, by omega, HOK.out, bcall hb hb.size hw1⟩
        case measure => simp [intOf]; omega
      · have hy : ruleOk rs[q] = false := by simpa using hy
        have HF : Hid (calOk rs = false) := calOk_no (by omega) hy
        rw [hy] at HE
        have HE : Hid _ := HE
        clear hok hy
        go_wp2_with fail
        refine Calls.mono HE.out ?_
        rintro e w1 ⟨rfl, hw1⟩
        go_wp2_with fail
        go_ret
        exact ⟨ret_bool HF.out.symm, bcall hb hb.size hw1⟩
    · have hf := calOk_all fun i hi => hok i hi (by omega)
      rw [hz] at hf
      have HF : Hid (calOk rs = decide ((1 : Int) ≤ (len : Int) ∧ (len : Int) ≤ 4)) := hf
      clear hok hf
      go_wp2_with (go_at_call 29; refine (HI.out _ _ _ _).mono ?_; rintro e w1 ⟨rfl, rfl⟩)
      go_ret
      refine ⟨?_, hb⟩
      rw [HF.out]
      simp

end Go.Proofs.YtkemfifkjaclhaaDoor
