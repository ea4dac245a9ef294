/- The model's l41Due: what is due. -/
import Derived.Test.YtghocdiddolinaaGreatDoorJ21
namespace Go.Proofs.YtghocdiddolinaaGreatDoor
set_option linter.unusedVariables false
set_option linter.unusedSimpArgs false
open Go.RowKit Go

def due (rs : List Rul) (t : Int) : Bool := rs.any (fun r => ofRule r t)
def calDue (rs : List Rul) (t : Int) : Bool := calOk rs && due rs t
theorem due_yes {rs : List Rul} {k : Nat} (hk : k < rs.length) {t : Int} (h : ofRule rs[k] t = true) : due rs t = true := by
  unfold due; rw [List.any_eq_true]; exact ⟨rs[k], List.getElem_mem hk, h⟩
theorem due_no {rs : List Rul} {t : Int} (h : ∀ i (hi : i < rs.length), ofRule rs[i] t = false) : due rs t = false := by
  unfold due; rw [List.any_eq_false]; intro x hx; obtain ⟨i, hi, rfl⟩ := List.mem_iff_getElem.1 hx; simp [h i hi]

set_option maxHeartbeats 1000000 in
theorem l41Due (a : Option Addr) (len cap : Nat) (rs : List Rul) (t : Int) (w : World) (hr : IsRuls w a len cap rs) (hok : ∀ i (hi : i < rs.length), RuleOk rs[i]) :
    Calls Tryz.prog 46 #[.slice a len cap, .int .i64 t] w fun e w' => e = .returned (.bool (due rs t)) ∧ Below w.heap.size w w' := by
  obtain ⟨hz, hm⟩ := IsRecs.len hr
  unfold maxLen at hm
  have HR : Hid (IsRuls w a len cap rs) := hr
  have HOK : Hid (∀ i (hi : i < rs.length), RuleOk rs[i]) := hok
  clear hr hok
  go_enter Tryz.func46, Tryz.ntmps46
  go_wp2
  go_loopw [5] (fun i wr => ∃ q : Nat, i = .int .i64 q ∧ q ≤ len ∧ (∀ i (hi : i < rs.length), i < q → ofRule rs[i] t = false) ∧ Below w.heap.size w wr) (fun i _ => len - (intOf i).toNat)
  case atStart => exact ⟨0, rfl, Nat.zero_le _, fun i _ h => by omega, Below.refl _ _⟩
  case round =>
    obtain ⟨q, rfl, hq, hno, hb⟩ := hrel
    by_cases hlt : q < len
    · obtain ⟨b, off, rfl, h1, hbl, a1, l1, k1, c0, c1, c2, c3, c4, hrow1, _⟩ := IsRuls.at (IsRuls.below HR.out hb) (i := q) (by omega)
      have HE := l41Of rs[q] a1 l1 k1 t wr hrow1 (HOK.out q (by omega))
      by_cases hy : ofRule rs[q] t = true
      · have HF : Hid (due rs t = true) := due_yes (by omega) hy
        rw [hy] at HE
        have HE : Hid _ := HE
        clear hno hy
        go_wp2_with fail
        refine Calls.mono HE.out ?_
        rintro e w1 ⟨rfl, hw1⟩
        go_wp2_with fail
        go_ret
        exact ⟨ret_bool HF.out.symm, bcall hb hb.size hw1⟩
      · have hy : ofRule rs[q] t = false := by simpa using hy
        have HNO : Hid (∀ i (hi : i < rs.length), i < q + 1 → ofRule rs[i] t = false) := fun i hi hiq => by
          by_cases e : i = q
          · subst e; exact hy
          · exact hno i hi (by omega)
        rw [hy] at HE
        have HE : Hid _ := HE
        clear hno hy
        go_wp2_with fail
        refine Calls.mono HE.out ?_
        rintro e w1 ⟨rfl, hw1⟩
        go_wp2_with fail
        go_roundw
        case rel => exact ⟨q + 1, by go_num, by omega, HNO.out, bcall hb hb.size hw1⟩
        case measure => simp [intOf]; omega
    · have HF : Hid (due rs t = false) := due_no fun i hi => hno i hi (by omega)
      clear hno
      go_wp2_with fail
      go_ret
      exact ⟨ret_bool HF.out.symm, hb⟩

end Go.Proofs.YtghocdiddolinaaGreatDoor
