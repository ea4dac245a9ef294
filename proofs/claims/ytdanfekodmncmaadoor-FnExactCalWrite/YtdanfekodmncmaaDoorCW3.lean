/- The model's text of rules. -/
import Derived.Test.YtdanfekodmncmaaDoorCW2
import Derived.Test.YtdanfekodmncmaaDoorCA2
namespace Go.Proofs.YtdanfekodmncmaaDoor
set_option linter.unusedVariables false
set_option linter.unusedSimpArgs false
open Go.RowKit Go

def nlB : ByteArray := ⟨#[10]⟩
theorem e_nlB : (⟨#[10]⟩ : ByteArray) = nlB := rfl
theorem nlB_size : nlB.size = 1 := rfl
/-- The text of rules: a newline behind each. -/
def calT (rs : List Rul) : ByteArray := rs.foldl (fun o r => o ++ rulT r ++ nlB) ⟨#[]⟩
theorem calT_snoc (rs : List Rul) (r : Rul) : calT (rs ++ [r]) = calT rs ++ rulT r ++ nlB := by simp [calT]
theorem rulT_size {r : Rul} (h : RuleOk r) : (rulT r).size ≤ 300 := by
  have h1 := numsT_size r.but (fits_all (rule_fits h)) (if r.but = [] then headT r else headT r ++ w5B)
  have h8 : r.but.length ≤ 8 := h.2.2.2.2.1
  obtain ⟨⟨e1, e2⟩, ⟨a1, a2⟩, ⟨f1, f2⟩, ⟨t1, t2⟩, _, _⟩ := h
  have s1 := itoB_size r.ev (by omega) (by omega)
  have s2 := itoB_size r.at_ (by omega) (by omega)
  have s3 := itoB_size r.fr (by omega) (by omega)
  have s4 := itoB_size r.to_ (by omega) (by omega)
  have z1 : w1B.size = 6 := rfl
  have z2 : w2B.size = 4 := rfl
  have z3 : w3B.size = 6 := rfl
  have z4 : w4B.size = 4 := rfl
  have z5 : w5B.size = 4 := rfl
  have hh : (headT r).size ≤ 104 := by unfold headT; simp only [ByteArray.size_append]; omega
  have : (if r.but = [] then headT r else headT r ++ w5B).size ≤ 108 := by
    split
    · omega
    · rw [ByteArray.size_append]; omega
  unfold rulT
  omega
theorem calT_size {rs : List Rul} (h : ∀ i (hi : i < rs.length), RuleOk rs[i]) : ∀ q, q ≤ rs.length → (calT (rs.take q)).size ≤ 301 * q := by
  intro q
  induction q with
  | zero => intro _; simp only [List.take_zero, calT, List.foldl_nil]; exact Nat.le_refl 0
  | succ q ih =>
    intro hq
    have e : rs.take (q + 1) = rs.take q ++ [rs[q]] := (List.take_append_getElem (by omega)).symm
    rw [e, calT_snoc, ByteArray.size_append, ByteArray.size_append]
    have h1 := ih (by omega)
    have h2 := rulT_size (h q (by omega))
    have h3 := nlB_size
    omega
/-- What the model writes. -/
def calW (rs : List Rul) : ByteArray := if calOk rs = true then calT rs else ⟨#[]⟩

set_option maxHeartbeats 1000000 in
theorem specCalWrite (a : Option Addr) (len cap : Nat) (rs : List Rul) (w : World) (hr : IsRuls w a len cap rs) :
    Calls Tryd.prog 19 #[.slice a len cap] w fun e w' => e = .returned (.string (calW rs)) ∧ Below w.heap.size w w' := by
  obtain ⟨hz, hm⟩ := IsRecs.len hr
  unfold maxLen at hm
  have HR : Hid (IsRuls w a len cap rs) := hr
  have HC : Hid _ := specCalOk a len cap rs w hr
  clear hr
  by_cases hok : calOk rs = true
  · have hW : calW rs = calT rs := if_pos hok
    have HRU : Hid (∀ i (hi : i < rs.length), RuleOk rs[i]) := calOk_rules hok
    have hl4 : len ≤ 4 := by
      have := calOk_all (rs := rs) (fun i hi => ruleOk_yes (calOk_rules hok i hi))
      rw [hok] at this
      have := of_decide_eq_true this.symm
      omega
    rw [hok] at HC
    clear hok
    rw [hW]
    clear hW
    go_enter Tryd.func19, Tryd.ntmps19
    go_wp2_with (go_at_call 9; refine Calls.mono HC.out ?_; rintro e w1 ⟨rfl, hw1⟩)
    go_loopw [3, 4] (fun o i wr => ∃ q : Nat, i = .int .i64 q ∧ q ≤ len ∧ o = .string (calT (rs.take q)) ∧ Below w.heap.size w wr) (fun _ i _ => len - (intOf i).toNat)
    case atStart => exact ⟨0, rfl, Nat.zero_le _, rfl, hw1⟩
    case round =>
      obtain ⟨q, rfl, hq, rfl, hb⟩ := hrel
      by_cases hlt : q < len
      · obtain ⟨b, off, rfl, h1, hbl, a1, l1, k1, c0, c1, c2, c3, c4, hrow1, _⟩ := IsRuls.at (IsRuls.below HR.out hb) (i := q) (by omega)
        have HE : Hid _ := l41Text rs[q] a1 l1 k1 wr hrow1 (HRU.out q (by omega))
        have hs1 := calT_size HRU.out q (by omega)
        have hs2 := rulT_size (HRU.out q (by omega))
        have HT : Hid (calT (rs.take (q + 1)) = calT (rs.take q) ++ rulT rs[q] ++ nlB) := by
          show _ = _
          rw [← calT_snoc, List.take_append_getElem]
        have e10 := e_nlB
        have z10 := nlB_size
        generalize calT (rs.take q) = P at hs1 HT ⊢
        generalize rulT rs[q] = R at hs2 HT HE
        have hs3 : (P ++ R).size ≤ 301 * q + 300 := by rw [ByteArray.size_append]; omega
        go_wp2_with fail
        refine Calls.mono HE.out ?_
        rintro e w1 ⟨rfl, hw1⟩
        go_wp2_with fail
        go_roundw
        case rel => exact ⟨q + 1, by go_num, by omega, by rw [HT.out], bcall hb hb.size hw1⟩
        case measure => simp [intOf]; omega
      · have he : rs.take q = rs := List.take_of_length_le (by omega)
        rw [he]
        go_wp2_with fail
        go_ret
        exact ⟨rfl, hb⟩
  · have hW : calW rs = ⟨#[]⟩ := if_neg hok
    have hok : calOk rs = false := by simpa using hok
    rw [hok] at HC
    clear hok
    rw [hW]
    clear hW
    go_enter Tryd.func19, Tryd.ntmps19
    go_wp2_with (go_at_call 9; refine Calls.mono HC.out ?_; rintro e w1 ⟨rfl, hw1⟩)
    go_ret
    exact ⟨rfl, hw1⟩
end Go.Proofs.YtdanfekodmncmaaDoor
