/- The program's own calendars: what is found wrong with them. -/
import Derived.Test.YtkemfifkjaclhaaDoorCI2
import Derived.Test.YtkemfifkjaclhaaDoorCA2p
namespace Go.Proofs.YtkemfifkjaclhaaDoor
set_option linter.unusedVariables false
set_option linter.unusedSimpArgs false
open Go.RowKit Go

/-- What is found wrong with rules: nothing, just if they are ok. -/
def Looked (e : Ending) (rs : List Rul) : Prop := (e = .returned .nilIface ∧ calOk rs = true) ∨ ∃ z : Int, e = .returned (.iface 48 (.agg #[.int .i64 z])) ∧ calOk rs = false

set_option maxHeartbeats 1000000 in
theorem lookedAtRules (a : Option Addr) (len cap : Nat) (rs : List Rul) (w : World) (hr : IsRuls w a len cap rs) :
    Calls Tryd.prog 27 #[.slice a len cap] w fun e w' => Looked e rs ∧ Below w.heap.size w w' := by
  obtain ⟨hz, hm⟩ := IsRecs.len hr
  unfold maxLen at hm
  have HR : Hid (IsRuls w a len cap rs) := hr
  clear hr
  have HT : Hid (∀ n lo hi w, lo ≤ n ∧ n ≤ hi → Calls Tryd.prog 37 #[.int .i64 n, .int .i64 lo, .int .i64 hi] w fun x w' => x = .returned (.bool true) ∧ w' = w) := fun n lo hi w h => isWithin_t n lo hi h w
  have HN : Hid (∀ n lo hi w, ¬ (lo ≤ n ∧ n ≤ hi) → Calls Tryd.prog 37 #[.int .i64 n, .int .i64 lo, .int .i64 hi] w fun x w' => x = .returned (.bool false) ∧ w' = w) := fun n lo hi w h => isWithin_f n lo hi h w
  by_cases hn : (1 : Int) ≤ (len : Int) ∧ (len : Int) ≤ 4
  · go_enter Tryd.func27, Tryd.ntmps27
    go_wp2_with (go_at_call 37; refine (HT.out _ _ _ _ hn).mono ?_; rintro e w1 ⟨rfl, hw⟩; subst w1)
    go_loopw [13] (fun i wr => ∃ q : Nat, i = .int .i64 q ∧ q ≤ len ∧ (∀ i (hi : i < rs.length), i < q → ruleOk rs[i] = true) ∧ Below w.heap.size w wr) (fun i _ => len - (intOf i).toNat)
    case atStart => exact ⟨0, rfl, Nat.zero_le _, fun i _ h => by omega, Below.refl _ _⟩
    case round =>
      obtain ⟨q, rfl, hq, hok, hb⟩ := hrel
      by_cases hlt : q < len
      · obtain ⟨b, off, rfl, h1, hbl, a1, l1, k1, c0, c1, c2, c3, c4, hrow1, _⟩ := IsRuls.at (IsRuls.below HR.out hb) (i := q) (by omega)
        have HE := fun o => implRuleOk rs[q] a1 l1 k1 (wr.alloc o) (hrow1.alloc o)
        by_cases hy : ruleOk rs[q] = true
        · have HOK : Hid (∀ i (hi : i < rs.length), i < q + 1 → ruleOk rs[i] = true) := fun i hi hiq => by
            by_cases e : i = q
            · subst e; exact hy
            · exact hok i hi (by omega)
          rw [hy] at HE
          have HE : Hid _ := HE
          clear hok hy
          go_wp2_with fail
          refine Calls.mono (HE.out _) ?_
          rintro e w1 ⟨rfl, hw1⟩
          go_wp2_with fail
          go_roundw
          case rel => exact ⟨q + 1, by go_num, by omega, HOK.out, bcall (hb.alloc hb.size _) (by have := hb.size; simp; omega) hw1⟩
          case measure => simp [intOf]; omega
        · have hy : ruleOk rs[q] = false := by simpa using hy
          have HF : Hid (calOk rs = false) := calOk_no (by omega) hy
          rw [hy] at HE
          have HE : Hid _ := HE
          clear hok hy
          go_wp2_with fail
          refine Calls.mono (HE.out _) ?_
          rintro e w1 ⟨rfl, hw1⟩
          go_wp2_with fail
          go_ret
          exact ⟨.inr ⟨_, rfl, HF.out⟩, bcall (hb.alloc hb.size _) (by have := hb.size; simp; omega) hw1⟩
      · have hf := calOk_all fun i hi => hok i hi (by omega)
        rw [hz, decide_eq_true hn] at hf
        have HF : Hid (calOk rs = true) := hf
        clear hok hf
        go_wp2_with fail
        go_ret
        exact ⟨.inl ⟨rfl, HF.out⟩, hb⟩
  · have HF : Hid (calOk rs = false) := by
      show calOk rs = false
      unfold calOk
      rw [hz, decide_eq_false hn, Bool.and_false]
    go_enter Tryd.func27, Tryd.ntmps27
    go_wp2_with (go_at_call 37; refine (HN.out _ _ _ _ hn).mono ?_; rintro e w1 ⟨rfl, hw⟩; subst w1)
    go_ret
    exact ⟨.inr ⟨0, rfl, HF.out⟩, Below.refl _ _⟩
end Go.Proofs.YtkemfifkjaclhaaDoor
