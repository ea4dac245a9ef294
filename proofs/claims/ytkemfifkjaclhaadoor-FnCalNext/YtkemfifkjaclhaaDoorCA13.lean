/- The model's CalCount. -/
import Derived.Test.YtkemfifkjaclhaaDoorCA13a
import Derived.Test.YtkemfifkjaclhaaDoorCA10
namespace Go.Proofs.YtkemfifkjaclhaaDoor
set_option linter.unusedVariables false
set_option linter.unusedSimpArgs false
open Go.RowKit Go

set_option maxHeartbeats 1000000 in
theorem specCalCount (a : Option Addr) (len cap : Nat) (rs : List Rul) (lo hi : Int) (w : World) (hr : IsRuls w a len cap rs) :
    Calls Tryd.prog 12 #[.slice a len cap, .int .i64 lo, .int .i64 hi] w fun e w' => e = .returned (.int .i64 (calCount rs lo hi)) ∧ Below w.heap.size w w' := by
  have HN : Hid (∀ t w, IsRuls w a len cap rs → Calls Tryd.prog 7 #[.slice a len cap, .int .i64 t] w fun e w' => e = .returned (.int .i64 (calNext rs t)) ∧ Below w.heap.size w w') := fun t w h => specCalNext a len cap rs t w h
  have HR : Hid (IsRuls w a len cap rs) := hr
  clear hr
  go_enter Tryd.func12, Tryd.ntmps12
  go_wp2_with fail
  refine (HN.out _ _ HR.out).mono ?_
  rintro e w1 ⟨rfl, hw1⟩
  go_wp2_with fail
  go_loopw [7, 8] (fun v7 v8 wr => ∃ n c : Int, v7 = .int .i64 n ∧ v8 = .int .i64 (calNext rs c) ∧ lo ≤ c ∧ (c = lo ∨ c ≤ hi) ∧ n = calCount rs lo c ∧ 0 ≤ n ∧ n ≤ 100001 ∧ Below w.heap.size w wr) (fun _ v8 _ => leftOf (intOf v8))
  case atStart => exact ⟨0, lo, rfl, rfl, Int.le_refl _, .inl rfl, (count_low rs (Int.le_refl _)).symm, by omega, by omega, hw1⟩
  case round =>
    obtain ⟨n, c, rfl, rfl, hc, hch, hn, hn0, hn1, hB⟩ := hrel
    have hbd := next_bd rs c
    have hnx := next_is rs c
    have HNX : Hid (IsNext rs c (calNext rs c)) := hnx
    have HCN : Hid (n = calCount rs lo c) := hn
    clear hnx hn
    generalize hx : calNext rs c = x at hbd HNX ⊢
    have HX : Hid (calNext rs c = x) := hx
    clear hx
    by_cases h0 : 0 ≤ x
    · by_cases h1 : x ≤ hi
      · have hn2 : n + 1 = calCount rs lo x := by rw [HCN.out, count_one rs hc HNX.out h0]
        have hle : n + 1 ≤ 100001 := by
          rw [hn2]; unfold calCount
          have := cnt_le rs lo (x + 1).toNat
          omega
        have HN2 : Hid (n + 1 = calCount rs lo x) := hn2
        have hb2 := next_bd rs x
        clear hn2
        go_wp2_with fail
        refine (HN.out _ _ (HR.out.below hB)).mono ?_
        rintro e w2 ⟨rfl, hw2⟩
        go_wp2_with fail
        go_roundw
        case rel => exact ⟨n + 1, x, rfl, rfl, by omega, .inr h1, HN2.out, by omega, hle, bcall hB hB.size hw2⟩
        case measure =>
          show leftOf (calNext rs x) < leftOf x
          unfold leftOf
          rw [if_neg (by omega : ¬ x < 0)]
          split <;> omega
      · have HF : Hid (calCount rs lo hi = n) := by
          show _ = _
          rw [HCN.out]
          rcases hch with rfl | hch
          · by_cases hl : hi ≤ c
            · rw [count_low rs hl, count_low rs (Int.le_refl _)]
            · exact count_none rs (by omega) fun u hu hu2 hu3 => by
                rcases HNX.out with ⟨_, h⟩ | ⟨_, _, h⟩
                · exact h u hu hu3
                · exact h u hu (by omega) hu3
          · exact count_none rs hch fun u hu hu2 hu3 => by
              rcases HNX.out with ⟨_, h⟩ | ⟨_, _, h⟩
              · exact h u hu hu3
              · exact h u hu (by omega) hu3
        go_wp2_with fail
        go_ret
        exact ⟨by rw [HF.out]; rfl, hB⟩
    · have HF : Hid (calCount rs lo hi = n) := by
        show _ = _
        rw [HCN.out]
        have hall : ∀ u, c < u → ¬ calDue rs u = true := fun u hu hu3 => by
          rcases HNX.out with ⟨_, h⟩ | ⟨h', _, _⟩
          · exact h u hu hu3
          · exact h0 (due_bd h').1
        rcases hch with rfl | hch
        · by_cases hl : hi ≤ c
          · rw [count_low rs hl, count_low rs (Int.le_refl _)]
          · exact count_none rs (by omega) fun u hu _ hu3 => hall u hu hu3
        · exact count_none rs hch fun u hu _ hu3 => hall u hu hu3
      go_wp2_with fail
      go_ret
      exact ⟨by rw [HF.out]; rfl, hB⟩
end Go.Proofs.YtkemfifkjaclhaaDoor
