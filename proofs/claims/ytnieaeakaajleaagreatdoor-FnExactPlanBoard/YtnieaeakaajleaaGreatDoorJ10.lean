/- The model's calendars: which ticks are left out. -/
import Derived.Test.YtnieaeakaajleaaGreatDoorJ9
import Derived.Deep.RegionWith
import Derived.BigGuard
import Derived.BigRegion
namespace Go.Proofs.YtnieaeakaajleaaGreatDoor
set_option linter.unusedVariables false
set_option linter.unusedSimpArgs false
open Go.RowKit Go

def CalOk (rs : List Rul) : Prop := (∀ i (h : i < rs.length), RuleOk rs[i]) ∧ 1 ≤ rs.length ∧ rs.length ≤ 4
def calOk (rs : List Rul) : Bool := rs.all ruleOk && decide ((1 : Int) ≤ (rs.length : Int) ∧ (rs.length : Int) ≤ 4)
theorem calOk_no {rs : List Rul} {k : Nat} (hk : k < rs.length) (h : ruleOk rs[k] = false) : calOk rs = false := by
  have : rs.all ruleOk = false := by rw [List.all_eq_false]; exact ⟨rs[k], List.getElem_mem hk, by simp [h]⟩
  simp [calOk, this]
theorem calOk_all {rs : List Rul} (h : ∀ i (hi : i < rs.length), ruleOk rs[i] = true) : calOk rs = decide ((1 : Int) ≤ (rs.length : Int) ∧ (rs.length : Int) ≤ 4) := by
  have : rs.all ruleOk = true := by rw [List.all_eq_true]; intro x hx; obtain ⟨i, hi, rfl⟩ := List.mem_iff_getElem.1 hx; exact h i hi
  simp only [calOk, this, Bool.true_and]
theorem calOk_rules {rs : List Rul} (h : calOk rs = true) : ∀ i (hi : i < rs.length), RuleOk rs[i] := by
  intro i hi
  simp only [calOk, Bool.and_eq_true, List.all_eq_true] at h
  have := h.1 _ (List.getElem_mem hi)
  simpa [ruleOk] using this

set_option maxHeartbeats 1000000 in
theorem specCalOk (a : Option Addr) (len cap : Nat) (rs : List Rul) (w : World) (hr : IsRuls w a len cap rs) :
    Calls Tryz.prog 52 #[.slice a len cap] w fun e w' => e = .returned (.bool (calOk rs)) ∧ Below w.heap.size w w' := by
  obtain ⟨hz, hm⟩ := IsRecs.len hr
  unfold maxLen at hm
  have HR : Hid (IsRuls w a len cap rs) := hr
  clear hr
  have HI : Hid (∀ n lo hi w, Calls Tryz.prog 53 #[.int .i64 n, .int .i64 lo, .int .i64 hi] w fun x w' => x = .returned (.bool (decide (lo ≤ n ∧ n ≤ hi))) ∧ w' = w) := l41In
  go_enter Tryz.func52, Tryz.ntmps52
  go_wp2
  go_loopw [3] (fun i wr => ∃ q : Nat, i = .int .i64 q ∧ q ≤ len ∧ (∀ i (hi : i < rs.length), i < q → ruleOk rs[i] = true) ∧ Below w.heap.size w wr) (fun i _ => len - (intOf i).toNat)
  case atStart => exact ⟨0, rfl, Nat.zero_le _, fun i _ h => by omega, Below.refl _ _⟩
  case round =>
    obtain ⟨q, rfl, hq, hok, hb⟩ := hrel
    by_cases hlt : q < len
    · obtain ⟨b, off, rfl, h1, hbl, a1, l1, k1, c0, c1, c2, c3, c4, hrow1, _⟩ := IsRuls.at (IsRuls.below HR.out hb) (i := q) (by omega)
      have HE := l41RuleOk rs[q] a1 l1 k1 wr hrow1
      by_cases hy : ruleOk rs[q] = true
      · have HOK : Hid (∀ i (hi : i < rs.length), i < q + 1 → ruleOk rs[i] = true) := fun i hi hiq => by
          by_cases e : i = q
          · subst e; exact hy
          · exact hok i hi (by omega)
        rw [hy] at HE
        have HE : Hid _ := HE
        clear hok hy
        go_wp2_with fail
        refine Calls.mono HE.out ?_
        rintro e w1 ⟨rfl, hw1⟩
        go_wp2_with fail
        go_roundw
        case rel => exact ⟨q + 1, by go_num, by omega, HOK.out, bcall hb hb.size hw1⟩
        case measure => simp [intOf]; omega
      · have hy : ruleOk rs[q] = false := by simpa using hy
        have HF : Hid (calOk rs = false) := calOk_no (by omega) hy
        rw [hy] at HE
        have HE : Hid _ := HE
        clear hok hy
        go_wp2_with fail
        refine Calls.mono HE.out ?_
        rintro e w1 ⟨rfl, hw1⟩
        go_wp2_with fail
        go_ret
        exact ⟨ret_bool HF.out.symm, bcall hb hb.size hw1⟩
    · have hf := calOk_all fun i hi => hok i hi (by omega)
      rw [hz] at hf
      have HF : Hid (calOk rs = decide ((1 : Int) ≤ (len : Int) ∧ (len : Int) ≤ 4)) := hf
      clear hok hf
      go_wp2_with (go_at_call 53; refine (HI.out _ _ _ _).mono ?_; rintro e w1 ⟨rfl, rfl⟩)
      go_ret
      refine ⟨?_, hb⟩
      rw [HF.out]
      simp

end Go.Proofs.YtnieaeakaajleaaGreatDoor

namespace Go.Proofs.YtnieaeakaajleaaGreatDoor
set_option linter.unusedVariables false
set_option linter.unusedSimpArgs false
open Go.RowKit Go

def nlB : ByteArray := ⟨#[10]⟩
theorem e_nlB : (⟨#[10]⟩ : ByteArray) = nlB := rfl
theorem nlB_size : nlB.size = 1 := rfl
/-- The text of rules: a newline behind each. -/
def calT (rs : List Rul) : ByteArray := rs.foldl (fun o r => o ++ rulT r ++ nlB) ⟨#[]⟩
theorem calT_snoc (rs : List Rul) (r : Rul) : calT (rs ++ [r]) = calT rs ++ rulT r ++ nlB := by simp [calT]
theorem rulT_size {r : Rul} (h : RuleOk r) : (rulT r).size ≤ 300 := by
  have h1 := numsT_size r.but (fits_all (rule_fits h)) (if r.but = [] then headT r else headT r ++ w5B)
  have h8 : r.but.length ≤ 8 := h.2.2.2.2.1
  obtain ⟨⟨e1, e2⟩, ⟨a1, a2⟩, ⟨f1, f2⟩, ⟨t1, t2⟩, _, _⟩ := h
  have s1 := itoB_size r.ev (by omega) (by omega)
  have s2 := itoB_size r.at_ (by omega) (by omega)
  have s3 := itoB_size r.fr (by omega) (by omega)
  have s4 := itoB_size r.to_ (by omega) (by omega)
  have z1 : w1B.size = 6 := rfl
  have z2 : w2B.size = 4 := rfl
  have z3 : w3B.size = 6 := rfl
  have z4 : w4B.size = 4 := rfl
  have z5 : w5B.size = 4 := rfl
  have hh : (headT r).size ≤ 104 := by unfold headT; simp only [ByteArray.size_append]; omega
  have : (if r.but = [] then headT r else headT r ++ w5B).size ≤ 108 := by
    split
    · omega
    · rw [ByteArray.size_append]; omega
  unfold rulT
  omega
theorem calT_size {rs : List Rul} (h : ∀ i (hi : i < rs.length), RuleOk rs[i]) : ∀ q, q ≤ rs.length → (calT (rs.take q)).size ≤ 301 * q := by
  intro q
  induction q with
  | zero => intro _; simp only [List.take_zero, calT, List.foldl_nil]; exact Nat.le_refl 0
  | succ q ih =>
    intro hq
    have e : rs.take (q + 1) = rs.take q ++ [rs[q]] := (List.take_append_getElem (by omega)).symm
    rw [e, calT_snoc, ByteArray.size_append, ByteArray.size_append]
    have h1 := ih (by omega)
    have h2 := rulT_size (h q (by omega))
    have h3 := nlB_size
    omega
/-- What the model writes. -/
def calW (rs : List Rul) : ByteArray := if calOk rs = true then calT rs else ⟨#[]⟩

end Go.Proofs.YtnieaeakaajleaaGreatDoor

namespace Go.Proofs.YtnieaeakaajleaaGreatDoor
set_option linter.unusedVariables false
set_option linter.unusedSimpArgs false
open Go.RowKit Go

def butHas (l : List Int) (t : Int) : Bool := decide (t ∈ l)
theorem butHas_yes {l : List Int} {k : Nat} (hk : k < l.length) {t : Int} (h : l.getD k 0 = t) : butHas l t = true := by
  rw [getD_at l k hk] at h; unfold butHas; rw [decide_eq_true_eq, ← h]; exact List.getElem_mem hk
theorem butHas_no {l : List Int} {t : Int} (h : ∀ i, i < l.length → l.getD i 0 ≠ t) : butHas l t = false := by
  unfold butHas; rw [decide_eq_false_iff_not]
  intro hm
  obtain ⟨i, hi, e⟩ := List.mem_iff_getElem.1 hm
  exact h i hi (by rw [getD_at l i hi]; exact e)

set_option maxHeartbeats 1000000 in
theorem l41But (r : Rul) (a : Option Addr) (len cap : Nat) (t : Int) (w : World) (hr : IsRow .i64 w a len cap r.but) :
    Calls Tryz.prog 86 #[.agg #[.int .i64 r.ev, .int .i64 r.at_, .int .i64 r.fr, .int .i64 r.to_, .slice a len cap], .int .i64 t] w fun x w' => x = .returned (.bool (butHas r.but t)) ∧ Below w.heap.size w w' := by
  obtain ⟨hz, hm⟩ := hr.len
  unfold maxLen at hm
  have HR : Hid (IsRow .i64 w a len cap r.but) := hr
  clear hr
  go_enter Tryz.func86, Tryz.ntmps86
  go_wp2
  go_loop [5] (fun i => ∃ k : Nat, k ≤ len ∧ i = .int .i64 k ∧ ∀ i, i < k → r.but.getD i 0 ≠ t) (fun i => len - (intOf i).toNat)
  case atStart => exact ⟨0, Nat.zero_le _, rfl, fun i h => by omega⟩
  case round =>
    obtain ⟨k, hk, rfl, hn⟩ := hrel
    have HN : Hid (∀ i, i < k → r.but.getD i 0 ≠ t) := hn
    clear hn
    by_cases hlt : k < len
    · obtain ⟨b, off, rfl, h1, h2, hc⟩ := IsRow.at HR.out hlt
      by_cases he : r.but.getD k 0 = t
      · have HF : Hid (butHas r.but t = true) := butHas_yes (by omega) he
        rw [he] at hc
        go_wp2
        go_ret
        exact ⟨ret_bool HF.out.symm, (Below.refl _ _).alloc (Nat.le_refl _) _⟩
      · have HN1 : Hid (∀ i, i < k + 1 → r.but.getD i 0 ≠ t) := fun i hi => by
          by_cases e : i = k
          · subst e; exact he
          · exact HN.out i (by omega)
        generalize r.but.getD k 0 = z at hc he
        have hd : (z == t) = false := by simpa using he
        go_wp2
        go_round
        case rel => exact ⟨k + 1, by omega, by go_num, HN1.out⟩
        case measure => simp [intOf]; omega
    · have HF : Hid (butHas r.but t = false) := butHas_no fun i hi => HN.out i (by omega)
      go_wp2
      go_ret
      exact ⟨ret_bool HF.out.symm, (Below.refl _ _).alloc (Nat.le_refl _) _⟩
end Go.Proofs.YtnieaeakaajleaaGreatDoor
