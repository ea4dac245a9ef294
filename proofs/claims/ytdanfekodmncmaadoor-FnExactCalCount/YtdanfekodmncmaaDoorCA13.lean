/- The model's CalCount. -/
import Derived.Test.YtdanfekodmncmaaDoorCA10
namespace Go.Proofs.YtdanfekodmncmaaDoor
set_option linter.unusedVariables false
set_option linter.unusedSimpArgs false
open Go.RowKit Go

/-- How many ticks below k, and behind lo, are due. -/
def cntTo (rs : List Rul) (lo : Int) : Nat → Nat
  | 0 => 0
  | k + 1 => cntTo rs lo k + if lo < (k : Int) ∧ calDue rs k = true then 1 else 0
theorem cnt_le (rs : List Rul) (lo : Int) : ∀ k, cntTo rs lo k ≤ k
  | 0 => Nat.le_refl _
  | k + 1 => by have := cnt_le rs lo k; show cntTo rs lo k + _ ≤ _; split <;> omega
theorem cnt_same (rs : List Rul) (lo : Int) (j : Nat) : ∀ k, j ≤ k → (∀ u : Nat, j ≤ u → u < k → ¬ (lo < (u : Int) ∧ calDue rs u = true)) → cntTo rs lo k = cntTo rs lo j
  | 0, h, _ => by have : j = 0 := by omega
                  rw [this]
  | k + 1, h, hn => by
    by_cases e : j = k + 1
    · rw [e]
    · show cntTo rs lo k + _ = _
      rw [if_neg (hn k (by omega) (by omega)), Nat.add_zero]
      exact cnt_same rs lo j k (by omega) fun u h1 h2 => hn u h1 (by omega)
def calCount (rs : List Rul) (lo hi : Int) : Int := (cntTo rs lo (hi + 1).toNat : Nat)
theorem count_low (rs : List Rul) {lo hi : Int} (h : hi ≤ lo) : calCount rs lo hi = 0 := by
  unfold calCount
  rw [cnt_same rs lo 0 _ (Nat.zero_le _) fun u _ h2 h3 => by omega]
  rfl
theorem count_none (rs : List Rul) {lo c hi : Int} (h : c ≤ hi) (hn : ∀ u, c < u → u ≤ hi → ¬ calDue rs u = true) : calCount rs lo hi = calCount rs lo c := by
  unfold calCount
  rw [cnt_same rs lo (c + 1).toNat (hi + 1).toNat (by omega) fun u h1 h2 h3 => hn u (by omega) (by omega) h3.2]
theorem count_one (rs : List Rul) {lo c n : Int} (hc : lo ≤ c) (hn : IsNext rs c n) (h0 : 0 ≤ n) : calCount rs lo n = calCount rs lo c + 1 := by
  rcases hn with ⟨rfl, _⟩ | ⟨h1, h2, h3⟩
  · omega
  · have e1 := count_none rs (lo := lo) (c := c) (hi := n - 1) (by omega) (fun u hu hu2 => h3 u hu (by omega))
    rw [← e1]
    unfold calCount
    have e2 : (n + 1).toNat = (n - 1 + 1).toNat + 1 := by omega
    rw [e2]
    show ((cntTo rs lo (n - 1 + 1).toNat + _ : Nat) : Int) = _
    have e3 : (((n - 1 + 1).toNat : Nat) : Int) = n := by omega
    rw [if_pos ⟨by omega, by rw [e3]; exact h1⟩]
    omega
theorem next_is (rs : List Rul) (t : Int) : IsNext rs t (calNext rs t) := by
  by_cases he : ∃ n, IsNext rs t n
  · obtain ⟨n, h⟩ := he; rw [calNext_eq h]; exact h
  · exfalso
    by_cases hd : ∃ u : Nat, t < (u : Int) ∧ calDue rs u = true
    · obtain ⟨u, hu⟩ := hd
      have hw : ∃ u : Nat, (t < (u : Int) ∧ calDue rs u = true) ∧ ∀ v : Nat, v < u → ¬ (t < (v : Int) ∧ calDue rs v = true) := by
        induction u using Nat.strongRecOn with
        | _ u ih =>
          by_cases h : ∃ v : Nat, v < u ∧ (t < (v : Int) ∧ calDue rs v = true)
          · obtain ⟨v, h1, h2⟩ := h; exact ih v h1 h2
          · exact ⟨u, hu, fun v h1 h2 => h ⟨v, h1, h2⟩⟩
      obtain ⟨u, h1, h2⟩ := hw
      refine he ⟨u, .inr ⟨h1.2, h1.1, fun v h3 h4 h5 => ?_⟩⟩
      have := (due_bd h5).1
      refine h2 v.toNat (by omega) ⟨by omega, ?_⟩
      rw [show ((v.toNat : Nat) : Int) = v from by omega]; exact h5
    · refine he ⟨-1, .inl ⟨rfl, fun v h3 h5 => ?_⟩⟩
      have := (due_bd h5).1
      refine hd ⟨v.toNat, by omega, ?_⟩
      rw [show ((v.toNat : Nat) : Int) = v from by omega]; exact h5
theorem next_bd (rs : List Rul) (t : Int) : -1 ≤ calNext rs t ∧ calNext rs t ≤ 100000 ∧ (0 ≤ calNext rs t → t < calNext rs t) := by
  rcases next_is rs t with ⟨h, _⟩ | ⟨h, h2, _⟩
  · rw [h]; omega
  · have := due_bd h; omega

/-- What is left to count. -/
def leftOf (x : Int) : Nat := if x < 0 then 0 else (100002 - x).toNat

set_option maxHeartbeats 1000000 in
theorem specCalCount (a : Option Addr) (len cap : Nat) (rs : List Rul) (lo hi : Int) (w : World) (hr : IsRuls w a len cap rs) :
    Calls Tryd.prog 17 #[.slice a len cap, .int .i64 lo, .int .i64 hi] w fun e w' => e = .returned (.int .i64 (calCount rs lo hi)) ∧ Below w.heap.size w w' := by
  have HN : Hid (∀ t w, IsRuls w a len cap rs → Calls Tryd.prog 15 #[.slice a len cap, .int .i64 t] w fun e w' => e = .returned (.int .i64 (calNext rs t)) ∧ Below w.heap.size w w') := fun t w h => specCalNext a len cap rs t w h
  have HR : Hid (IsRuls w a len cap rs) := hr
  clear hr
  go_enter Tryd.func17, Tryd.ntmps17
  go_wp2_with fail
  refine (HN.out _ _ HR.out).mono ?_
  rintro e w1 ⟨rfl, hw1⟩
  go_wp2_with fail
  go_loopw [7, 8] (fun v7 v8 wr => ∃ n c : Int, v7 = .int .i64 n ∧ v8 = .int .i64 (calNext rs c) ∧ lo ≤ c ∧ (c = lo ∨ c ≤ hi) ∧ n = calCount rs lo c ∧ 0 ≤ n ∧ n ≤ 100001 ∧ Below w.heap.size w wr) (fun _ v8 _ => leftOf (intOf v8))
  case atStart => exact ⟨0, lo, rfl, rfl, Int.le_refl _, .inl rfl, (count_low rs (Int.le_refl _)).symm, by omega, by omega, hw1⟩
  case round =>
    obtain ⟨n, c, rfl, rfl, hc, hch, hn, hn0, hn1, hB⟩ := hrel
    have hbd := next_bd rs c
    have hnx := next_is rs c
    have HNX : Hid (IsNext rs c (calNext rs c)) := hnx
    have HCN : Hid (n = calCount rs lo c) := hn
    clear hnx hn
    generalize hx : calNext rs c = x at hbd HNX ⊢
    have HX : Hid (calNext rs c = x) := hx
    clear hx
    by_cases h0 : 0 ≤ x
    · by_cases h1 : x ≤ hi
      · have hn2 : n + 1 = calCount rs lo x := by rw [HCN.out, count_one rs hc HNX.out h0]
        have hle : n + 1 ≤ 100001 := by
          rw [hn2]; unfold calCount
          have := cnt_le rs lo (x + 1).toNat
          omega
        have HN2 : Hid (n + 1 = calCount rs lo x) := hn2
        have hb2 := next_bd rs x
        clear hn2
        go_wp2_with fail
        refine (HN.out _ _ (HR.out.below hB)).mono ?_
        rintro e w2 ⟨rfl, hw2⟩
        go_wp2_with fail
        go_roundw
        case rel => exact ⟨n + 1, x, rfl, rfl, by omega, .inr h1, HN2.out, by omega, hle, bcall hB hB.size hw2⟩
        case measure =>
          show leftOf (calNext rs x) < leftOf x
          unfold leftOf
          rw [if_neg (by omega : ¬ x < 0)]
          split <;> omega
      · have HF : Hid (calCount rs lo hi = n) := by
          show _ = _
          rw [HCN.out]
          rcases hch with rfl | hch
          · by_cases hl : hi ≤ c
            · rw [count_low rs hl, count_low rs (Int.le_refl _)]
            · exact count_none rs (by omega) fun u hu hu2 hu3 => by
                rcases HNX.out with ⟨_, h⟩ | ⟨_, _, h⟩
                · exact h u hu hu3
                · exact h u hu (by omega) hu3
          · exact count_none rs hch fun u hu hu2 hu3 => by
              rcases HNX.out with ⟨_, h⟩ | ⟨_, _, h⟩
              · exact h u hu hu3
              · exact h u hu (by omega) hu3
        go_wp2_with fail
        go_ret
        exact ⟨by rw [HF.out]; rfl, hB⟩
    · have HF : Hid (calCount rs lo hi = n) := by
        show _ = _
        rw [HCN.out]
        have hall : ∀ u, c < u → ¬ calDue rs u = true := fun u hu hu3 => by
          rcases HNX.out with ⟨_, h⟩ | ⟨h', _, _⟩
          · exact h u hu hu3
          · exact h0 (due_bd h').1
        rcases hch with rfl | hch
        · by_cases hl : hi ≤ c
          · rw [count_low rs hl, count_low rs (Int.le_refl _)]
          · exact count_none rs (by omega) fun u hu _ hu3 => hall u hu hu3
        · exact count_none rs hch fun u hu _ hu3 => hall u hu hu3
      go_wp2_with fail
      go_ret
      exact ⟨by rw [HF.out]; rfl, hB⟩
end Go.Proofs.YtdanfekodmncmaaDoor
