/- The model's calendars: which ticks are left out. -/
import Derived.Test.YtkemfifkjaclhaaDoorCA2p
namespace Go.Proofs.YtkemfifkjaclhaaDoor
set_option linter.unusedVariables false
set_option linter.unusedSimpArgs false
open Go.RowKit Go

def butHas (l : List Int) (t : Int) : Bool := decide (t ∈ l)
theorem butHas_yes {l : List Int} {k : Nat} (hk : k < l.length) {t : Int} (h : l.getD k 0 = t) : butHas l t = true := by
  rw [getD_at l k hk] at h; unfold butHas; rw [decide_eq_true_eq, ← h]; exact List.getElem_mem hk
theorem butHas_no {l : List Int} {t : Int} (h : ∀ i, i < l.length → l.getD i 0 ≠ t) : butHas l t = false := by
  unfold butHas; rw [decide_eq_false_iff_not]
  intro hm
  obtain ⟨i, hi, e⟩ := List.mem_iff_getElem.1 hm
  exact h i hi (by rw [getD_at l i hi]; exact e)

set_option maxHeartbeats 1000000 in
theorem l41But (r : Rul) (a : Option Addr) (len cap : Nat) (t : Int) (w : World) (hr : IsRow .i64 w a len cap r.but) :
    Calls Tryd.prog 49 #[.agg #[.int .i64 r.ev, .int .i64 r.at_, .int .i64 r.fr, .int .i64 r.to_, .slice a len cap], .int .i64 t] w fun x w' => x = .returned (.bool (butHas r.but t)) ∧ Below w.heap.size w w' := by
  obtain ⟨hz, hm⟩ := hr.len
  unfold maxLen at hm
  have HR : Hid (IsRow .i64 w a len cap r.but) := hr
  clear hr
  go_enter Tryd.func49, Tryd.ntmps49
  go_wp2
  go_loop [5] (fun i => ∃ k : Nat, k ≤ len ∧ i = .int .i64 k ∧ ∀ i, i < k → r.but.getD i 0 ≠ t) (fun i => len - (intOf i).toNat)
  case atStart => exact ⟨0, Nat.zero_le _, rfl, fun i h => by omega⟩
  case round =>
    obtain ⟨k, hk, rfl, hn⟩ := hrel
    have HN : Hid (∀ i, i < k → r.but.getD i 0 ≠ t) := hn
    clear hn
    by_cases hlt : k < len
    · obtain ⟨b, off, rfl, h1, h2, hc⟩ := IsRow.at HR.out hlt
      by_cases he : r.but.getD k 0 = t
      · have HF : Hid (butHas r.but t = true) := butHas_yes (by omega) he
        rw [he] at hc
        go_wp2
        go_ret
        exact ⟨ret_bool HF.out.symm, (Below.refl _ _).alloc (Nat.le_refl _) _⟩
      · have HN1 : Hid (∀ i, i < k + 1 → r.but.getD i 0 ≠ t) := fun i hi => by
          by_cases e : i = k
          · subst e; exact he
          · exact HN.out i (by omega)
        generalize r.but.getD k 0 = z at hc he
        have hd : (z == t) = false := by simpa using he
        go_wp2
        go_round
        case rel => exact ⟨k + 1, by omega, by go_num, HN1.out⟩
        case measure => simp [intOf]; omega
    · have HF : Hid (butHas r.but t = false) := butHas_no fun i hi => HN.out i (by omega)
      go_wp2
      go_ret
      exact ⟨ret_bool HF.out.symm, (Below.refl _ _).alloc (Nat.le_refl _) _⟩
end Go.Proofs.YtkemfifkjaclhaaDoor
