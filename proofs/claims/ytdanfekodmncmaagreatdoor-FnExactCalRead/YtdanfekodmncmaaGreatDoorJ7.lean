/- The model's numbers of a text: l41Num. -/
import Derived.Test.YtdanfekodmncmaaGreatDoorJ6
import Derived.BigQuiet
import Derived.Deep.QuietTactic
namespace Go.Proofs.YtdanfekodmncmaaGreatDoor
set_option linter.unusedVariables false
set_option linter.unusedSimpArgs false
open Go.RowKit Go

set_option maxHeartbeats 400000 in
theorem l41In (n lo hi : Int) (w : World) :
    Calls Tryz.prog 19 #[.int .i64 n, .int .i64 lo, .int .i64 hi] w fun e w' => e = .returned (.bool (decide (lo ≤ n ∧ n ≤ hi))) ∧ w' = w := by
  by_cases h1 : lo ≤ n
  · by_cases h2 : n ≤ hi
    · rw [decide_eq_true ⟨h1, h2⟩]
      go_enter Tryz.func19, Tryz.ntmps19
      go_wp2
      go_ret
      exact ⟨by simp [h1, h2], rfl⟩
    · rw [decide_eq_false (fun h => h2 h.2)]
      go_enter Tryz.func19, Tryz.ntmps19
      go_wp2
      go_ret
      exact ⟨by first | (simp; done) | (simp; omega), rfl⟩
  · rw [decide_eq_false (fun h => h1 h.1)]
    go_enter Tryz.func19, Tryz.ntmps19
    go_wp2
    go_ret
    exact ⟨by first | (simp; done) | (simp; omega), rfl⟩

theorem quiet_again {P : Program} {f : FuncId} {args : Array Value} {w : World} {m n : Nat} {v : Value} (h : Calls P f args (w.drewN (m + n)) fun e w' => e = .returned v ∧ w' = w.drewN (m + n)) :
    Calls P f args (w.drewN (m + n)) fun e w'' => e = .returned v ∧ ∃ q, w'' = w.drewN (m + q) := h.mono fun _ _ ⟨he, hm⟩ => ⟨he, n, hm⟩
/-- A tick that is left out, at its place. -/
def butAt (l : List Int) (i : Nat) : Prop := 0 ≤ l.getD i 0 ∧ l.getD i 0 ≤ 100000 ∧ (0 < i → l.getD (i - 1) 0 < l.getD i 0)
def RuleOk (r : Rul) : Prop := (1 ≤ r.ev ∧ r.ev ≤ 1000) ∧ (0 ≤ r.at_ ∧ r.at_ ≤ r.ev - 1) ∧ (0 ≤ r.fr ∧ r.fr ≤ 100000) ∧ (r.fr ≤ r.to_ ∧ r.to_ ≤ 100000) ∧ r.but.length ≤ 8 ∧ ∀ i, i < r.but.length → butAt r.but i
instance (l : List Int) (i : Nat) : Decidable (butAt l i) := by unfold butAt; infer_instance
instance (r : Rul) : Decidable (RuleOk r) := by unfold RuleOk; infer_instance
def ruleOk (r : Rul) : Bool := decide (RuleOk r)
theorem ruleOk_no {r : Rul} (h : ¬ RuleOk r) : ruleOk r = false := by unfold ruleOk; exact decide_eq_false h
theorem ruleOk_yes {r : Rul} (h : RuleOk r) : ruleOk r = true := by unfold ruleOk; exact decide_eq_true h

set_option maxRecDepth 4000 in
set_option maxHeartbeats 2000000 in
theorem l41RuleOk (r : Rul) (a : Option Addr) (len cap : Nat) (w : World) (hr : IsRow .i64 w a len cap r.but) :
    Calls Tryz.prog 18 #[.agg #[.int .i64 r.ev, .int .i64 r.at_, .int .i64 r.fr, .int .i64 r.to_, .slice a len cap]] w fun x w' => x = .returned (.bool (ruleOk r)) ∧ Below w.heap.size w w' := by
  obtain ⟨hz, hm⟩ := hr.len
  unfold maxLen at hm
  have HR : Hid (IsRow .i64 w a len cap r.but) := hr
  clear hr
  have HI : Hid (∀ n lo hi w, Calls Tryz.prog 19 #[.int .i64 n, .int .i64 lo, .int .i64 hi] w fun x w' => x = .returned (.bool (decide (lo ≤ n ∧ n ≤ hi))) ∧ w' = w) := l41In
  have HT : Hid (∀ n lo hi w, lo ≤ n ∧ n ≤ hi → Calls Tryz.prog 19 #[.int .i64 n, .int .i64 lo, .int .i64 hi] w fun x w' => x = .returned (.bool true) ∧ w' = w) := fun n lo hi w h => by have := l41In n lo hi w; rwa [decide_eq_true h] at this
  have HN : Hid (∀ n lo hi w, ¬ (lo ≤ n ∧ n ≤ hi) → Calls Tryz.prog 19 #[.int .i64 n, .int .i64 lo, .int .i64 hi] w fun x w' => x = .returned (.bool false) ∧ w' = w) := fun n lo hi w h => by have := l41In n lo hi w; rwa [decide_eq_false h] at this
  obtain ⟨ev, at_, fr, to_, but⟩ := r
  dsimp only at *
  by_cases p1 : 1 ≤ ev ∧ ev ≤ 1000
  · by_cases p2 : 0 ≤ at_ ∧ at_ ≤ ev - 1
    · by_cases p3 : 0 ≤ fr ∧ fr ≤ 100000
      · by_cases p4 : fr ≤ to_ ∧ to_ ≤ 100000
        · by_cases p5 : len ≤ 8
          · go_enter Tryz.func18, Tryz.ntmps18
            go_wp2_with (go_at_call 19; refine (HT.out _ _ _ _ (by omega)).mono ?_; rintro e w' ⟨rfl, rfl⟩)
            go_loopw [3] (fun i wr => ∃ k m : Nat, k ≤ len ∧ i = .int .i64 k ∧ (∀ i, i < k → butAt but i) ∧ wr = (w.alloc (.cells #[.int .i64 ev, .int .i64 at_, .int .i64 fr, .int .i64 to_, .slice a len cap] 32)).drewN m) (fun i _ => len - (intOf i).toNat)
            case atStart => exact ⟨0, 0, Nat.zero_le _, rfl, fun i h => by omega, rfl⟩
            case round =>
              obtain ⟨k, m, hk, rfl, hb, rfl⟩ := hrel
              have HB : Hid (∀ i, i < k → butAt but i) := hb
              clear hb
              by_cases hlt : k < len
              · obtain ⟨b, off, rfl, h1, h2, hc⟩ := IsRow.at HR.out hlt
                have HBN : Hid (∀ m, Below w.heap.size w ((w.alloc (.cells #[.int .i64 ev, .int .i64 at_, .int .i64 fr, .int .i64 to_, .slice (some ⟨b, off, none⟩) len cap] 32)).drewN m)) := fun m => below_drewN ((Below.refl _ _).alloc (Nat.le_refl _) _) m
                by_cases hin : 0 ≤ but.getD k 0 ∧ but.getD k 0 ≤ 100000
                · have HIN : Hid (∀ w, Calls Tryz.prog 19 #[.int .i64 (but.getD k 0), .int .i64 0, .int .i64 100000] w fun x w' => x = .returned (.bool true) ∧ w' = w) := fun w => HT.out _ _ _ w hin
                  cases k with
                  | zero =>
                    have HB1 : Hid (∀ i, i < 0 + 1 → butAt but i) := fun i hi => by
                      have : i = 0 := by omega
                      subst this
                      exact ⟨hin.1, hin.2, fun h => by omega⟩
                    clear hin
                    generalize but.getD 0 0 = z at hc HIN
                    simp only [Nat.add_zero] at hc
                    go_wp2_with fail
                    go_quiet ((go_at_call 19; exact quiet_again (HIN.out _)))
                    go_wp2_with fail
                    go_roundw
                    case rel => exact ⟨0 + 1, _, by omega, by go_num, HB1.out, rfl⟩
                    case measure => simp [intOf]; omega
                  | succ j =>
                    obtain ⟨b', off', e', _, _, hcj⟩ := IsRow.at HR.out (i := j) (by omega)
                    cases e'
                    by_cases hlt2 : but.getD j 0 < but.getD (j + 1) 0
                    · have HB1 : Hid (∀ i, i < j + 1 + 1 → butAt but i) := fun i hi => by
                        by_cases e : i = j + 1
                        · subst e; exact ⟨hin.1, hin.2, fun _ => hlt2⟩
                        · exact HB.out i (by omega)
                      clear hin
                      generalize but.getD (j + 1) 0 = z at hc HIN hlt2
                      generalize but.getD j 0 = y at hcj hlt2
                      have hd : decide (z ≤ y) = false := decide_eq_false (by omega)
                      go_wp2_with fail
                      go_quiet ((go_at_call 19; exact quiet_again (HIN.out _)))
                      go_wp2_with fail
                      go_roundw
                      case rel => exact ⟨j + 1 + 1, _, by omega, by go_num, HB1.out, rfl⟩
                      case measure => simp [intOf]; omega
                    · have HF : Hid (ruleOk ⟨ev, at_, fr, to_, but⟩ = false) := ruleOk_no fun h => hlt2 ((h.2.2.2.2.2 (j + 1) (by dsimp only; omega)).2.2 (by omega))
                      clear hin
                      generalize but.getD (j + 1) 0 = z at hc HIN hlt2
                      generalize but.getD j 0 = y at hcj hlt2
                      have hd : z ≤ y := by omega
                      clear hlt2
                      go_wp2_with fail
                      go_quiet ((go_at_call 19; exact quiet_again (HIN.out _)))
                      go_wp2_with fail
                      go_ret
                      exact ⟨ret_bool HF.out.symm, by first | exact HBN.out _ | exact below_drewN (HBN.out _) _⟩
                · have HIN : Hid (∀ w, Calls Tryz.prog 19 #[.int .i64 (but.getD k 0), .int .i64 0, .int .i64 100000] w fun x w' => x = .returned (.bool false) ∧ w' = w) := fun w => HN.out _ _ _ w hin
                  have HF : Hid (ruleOk ⟨ev, at_, fr, to_, but⟩ = false) := ruleOk_no fun h => hin ⟨(h.2.2.2.2.2 k (by dsimp only; omega)).1, (h.2.2.2.2.2 k (by dsimp only; omega)).2.1⟩
                  clear hin
                  generalize but.getD k 0 = z at hc HIN
                  go_wp2_with fail
                  go_quiet ((go_at_call 19; exact quiet_again (HIN.out _)))
                  go_wp2_with fail
                  go_ret
                  exact ⟨ret_bool HF.out.symm, by first | exact HBN.out _ | exact below_drewN (HBN.out _) _⟩
              · have HF : Hid (ruleOk ⟨ev, at_, fr, to_, but⟩ = true) := ruleOk_yes ⟨p1, p2, p3, p4, by dsimp only; omega, fun i hi => HB.out i (by dsimp only at hi; omega)⟩
                go_wp2
                go_ret
                exact ⟨ret_bool HF.out.symm, below_drewN ((Below.refl _ _).alloc (Nat.le_refl _) _) _⟩
          · have HF : Hid (ruleOk ⟨ev, at_, fr, to_, but⟩ = false) := ruleOk_no fun h => p5 (by have := h.2.2.2.2.1; dsimp only at this; omega)
            go_enter Tryz.func18, Tryz.ntmps18
            go_wp2_with (go_at_call 19; refine (HT.out _ _ _ _ (by omega)).mono ?_; rintro e w' ⟨rfl, rfl⟩)
            go_ret
            exact ⟨ret_bool HF.out.symm, (Below.refl _ _).alloc (Nat.le_refl _) _⟩
        · have HF : Hid (ruleOk ⟨ev, at_, fr, to_, but⟩ = false) := ruleOk_no fun h => p4 h.2.2.2.1
          go_enter Tryz.func18, Tryz.ntmps18
          go_wp2_with (go_at_call 19; first | (refine (HT.out _ _ _ _ (by omega)).mono ?_; rintro e w' ⟨rfl, rfl⟩) | (refine (HN.out _ _ _ _ (by omega)).mono ?_; rintro e w' ⟨rfl, rfl⟩))
          go_ret
          exact ⟨ret_bool HF.out.symm, (Below.refl _ _).alloc (Nat.le_refl _) _⟩
      · have HF : Hid (ruleOk ⟨ev, at_, fr, to_, but⟩ = false) := ruleOk_no fun h => p3 h.2.2.1
        go_enter Tryz.func18, Tryz.ntmps18
        go_wp2_with (go_at_call 19; first | (refine (HT.out _ _ _ _ (by omega)).mono ?_; rintro e w' ⟨rfl, rfl⟩) | (refine (HN.out _ _ _ _ (by omega)).mono ?_; rintro e w' ⟨rfl, rfl⟩))
        go_ret
        exact ⟨ret_bool HF.out.symm, (Below.refl _ _).alloc (Nat.le_refl _) _⟩
    · have HF : Hid (ruleOk ⟨ev, at_, fr, to_, but⟩ = false) := ruleOk_no fun h => p2 h.2.1
      go_enter Tryz.func18, Tryz.ntmps18
      go_wp2_with (go_at_call 19; first | (refine (HT.out _ _ _ _ (by omega)).mono ?_; rintro e w' ⟨rfl, rfl⟩) | (refine (HN.out _ _ _ _ (by omega)).mono ?_; rintro e w' ⟨rfl, rfl⟩))
      go_ret
      exact ⟨ret_bool HF.out.symm, (Below.refl _ _).alloc (Nat.le_refl _) _⟩
  · have HF : Hid (ruleOk ⟨ev, at_, fr, to_, but⟩ = false) := ruleOk_no fun h => p1 h.1
    go_enter Tryz.func18, Tryz.ntmps18
    go_wp2_with (go_at_call 19; refine (HN.out _ _ _ _ (by omega)).mono ?_; rintro e w' ⟨rfl, rfl⟩)
    go_ret
    exact ⟨ret_bool HF.out.symm, (Below.refl _ _).alloc (Nat.le_refl _) _⟩
end Go.Proofs.YtdanfekodmncmaaGreatDoor

namespace Go.Proofs.YtdanfekodmncmaaGreatDoor
set_option linter.unusedVariables false
set_option linter.unusedSimpArgs false
open Go.RowKit
namespace Cal

/-- A number of at most six figures, with no needless nought. -/
def numGood (d : List UInt8) : Bool := decide (1 ≤ d.length) && decide (d.length ≤ 6) && !(decide (1 < d.length) && decide (d.head? = some 48)) && d.all isDig
def numV (d : List UInt8) : Int := if numGood d = true then digVal 0 d else -1
theorem numV_no {d : List UInt8} (h : numGood d = false) : numV d = -1 := by simp [numV, h]
theorem numV_yes {d : List UInt8} (h : numGood d = true) : numV d = digVal 0 d := by simp [numV, h]
theorem numGood_len {d : List UInt8} (h : ¬ (1 ≤ d.length ∧ d.length ≤ 6)) : numGood d = false := by
  unfold numGood
  by_cases h1 : 1 ≤ d.length <;> by_cases h2 : d.length ≤ 6 <;> simp [h1, h2] <;> omega
theorem numGood_zero {d : List UInt8} (h : 1 < d.length) (h0 : d.head? = some 48) : numGood d = false := by simp [numGood, h, h0]
theorem numGood_at {d : List UInt8} {k : Nat} (hk : k < d.length) (h : isDig d[k] = false) : numGood d = false := by
  have : d.all isDig = false := by rw [List.all_eq_false]; exact ⟨d[k], List.getElem_mem hk, by simp [h]⟩
  simp [numGood, this]
theorem numGood_good {d : List UInt8} (h1 : 1 ≤ d.length) (h2 : d.length ≤ 6) (h3 : ¬ (1 < d.length ∧ d.head? = some 48)) (h4 : ∀ i (hi : i < d.length), isDig d[i] = true) : numGood d = true := by
  have : d.all isDig = true := by rw [List.all_eq_true]; intro x hx; obtain ⟨i, hi, rfl⟩ := List.mem_iff_getElem.1 hx; exact h4 i hi
  unfold numGood
  rw [this]
  simp only [h1, h2, decide_true, Bool.true_and, Bool.and_true, Bool.not_eq_true']
  rw [Bool.and_eq_false_iff]
  by_cases h : 1 < d.length
  · exact .inr (by simpa using fun e => h3 ⟨h, e⟩)
  · exact .inl (by simpa using h)

theorem head_at (s : ByteArray) (h : 0 < s.size) : s.data.toList.head? = some s[0] := by
  rw [← bget s 0 h, List.head?_eq_getElem?, List.getElem?_eq_getElem]
theorem byte_eq {c : UInt8} {n : Nat} (hn : n < 256) : ((c.toNat : Int) == (n : Int)) = decide (c = UInt8.ofNat n) := by
  rw [Bool.eq_iff_iff, beq_iff_eq, decide_eq_true_eq]
  constructor
  · intro h; apply UInt8.toNat_inj.1; rw [UInt8.toNat_ofNat_of_lt' (by simpa using hn)]; omega
  · rintro rfl; rw [UInt8.toNat_ofNat_of_lt' (by simpa using hn)]
theorem dig_step {s : ByteArray} {k : Nat} (h : k < s.size) (ha : ∀ j (hj : j < s.size), j < k → isDig s[j] = true) (hw : isDig s[k] = true) : ∀ j (hj : j < s.size), j < k + 1 → isDig s[j] = true := by
  intro j hj hjk
  by_cases e : j = k
  · subst e; exact hw
  · exact ha j hj (by omega)
theorem dig_take {s : ByteArray} {k : Nat} (hk : k ≤ s.size) (ha : ∀ j (hj : j < s.size), j < k → isDig s[j] = true) : (s.data.toList.take k).all isDig = true := by
  rw [List.all_eq_true]; intro x hx
  obtain ⟨i, hi, rfl⟩ := List.mem_iff_getElem.1 hx
  simp only [List.length_take] at hi
  rw [List.getElem_take, bget s i (by simp at hi; omega)]
  exact ha i _ (by omega)
theorem pow_bd (m : Nat) (h : m ≤ 6) : (10 : Int) ^ m ≤ 1000000 := by
  match m, h with
  | 0, _ => decide
  | 1, _ => decide
  | 2, _ => decide
  | 3, _ => decide
  | 4, _ => decide
  | 5, _ => decide
  | 6, _ => decide
theorem dig_bd {s : ByteArray} {k : Nat} (hk : k ≤ s.size) (h4 : s.size ≤ 6) (ha : ∀ j (hj : j < s.size), j < k → isDig s[j] = true) : 0 ≤ digVal 0 (s.data.toList.take k) ∧ digVal 0 (s.data.toList.take k) ≤ 999999 := by
  have h := digVal_bd (s.data.toList.take k) 0 (Int.le_refl _) (dig_take hk ha)
  have hl : (s.data.toList.take k).length ≤ 6 := by simp; omega
  have := pow_bd _ hl
  omega
theorem dig_val {s : ByteArray} {k : Nat} (h : k < s.size) :
    Value.int .i64 (digVal 0 (s.data.toList.take k) * 10 + ((s[k].toNat : Int) - 48)) = .int .i64 (digVal 0 (s.data.toList.take (k + 1))) := by
  rw [take_snoc s k h, digVal_snoc]
theorem digNot {c : UInt8} (h : isDig c = false) : ((c.toNat : Int) < 48) ∨ ((57 : Int) < (c.toNat : Int)) := by
  simp only [isDig, Bool.and_eq_false_iff, decide_eq_false_iff_not] at h; omega

set_option maxHeartbeats 1000000 in
theorem l41Num (s : ByteArray) (w : World) (hs : s.size ≤ maxLen) :
    Calls Tryz.prog 17 #[.string s] w fun e w' => e = .returned (.int .i64 (numV s.data.toList)) ∧ w' = w := by
  unfold maxLen at hs
  have HT : Hid (∀ n lo hi w, lo ≤ n ∧ n ≤ hi → Calls Tryz.prog 19 #[.int .i64 n, .int .i64 lo, .int .i64 hi] w fun x w' => x = .returned (.bool true) ∧ w' = w) := fun n lo hi w h => by have := l41In n lo hi w; rwa [decide_eq_true h] at this
  have HN : Hid (∀ n lo hi w, ¬ (lo ≤ n ∧ n ≤ hi) → Calls Tryz.prog 19 #[.int .i64 n, .int .i64 lo, .int .i64 hi] w fun x w' => x = .returned (.bool false) ∧ w' = w) := fun n lo hi w h => by have := l41In n lo hi w; rwa [decide_eq_false h] at this
  by_cases hl : 1 ≤ s.size ∧ s.size ≤ 6
  · obtain ⟨hl1, hl2⟩ := hl
    have d0 : 0 < s.size := by omega
    by_cases h1 : 1 < s.size
    · by_cases hz2 : s[0] = 48
      · have HF : Hid (numV s.data.toList = -1) := numV_no (numGood_zero (by simpa using h1) (by rw [head_at s d0, hz2]))
        have hz3 : ((s[0].toNat : Int) == 48) = true := by rw [show (48 : Int) = ((48 : Nat) : Int) from rfl, byte_eq (by decide)]; simpa using hz2
        clear hz2
        go_enter Tryz.func17, Tryz.ntmps17
        go_wp2_with (go_at_call 19; refine (HT.out _ _ _ _ (by omega)).mono ?_; rintro e w' ⟨rfl, rfl⟩)
        go_ret
        exact ⟨ret_int HF.out.symm, rfl⟩
      have HZ : Hid (¬ (1 < s.data.toList.length ∧ s.data.toList.head? = some 48)) := fun h => hz2 (by have := h.2; rw [head_at s d0] at this; simpa using this)
      have hz3 : ((s[0].toNat : Int) == 48) = false := by rw [show (48 : Int) = ((48 : Nat) : Int) from rfl, byte_eq (by decide)]; simpa using hz2
      clear hz2
      go_enter Tryz.func17, Tryz.ntmps17
      go_wp2_with (go_at_call 19; refine (HT.out _ _ _ _ (by omega)).mono ?_; rintro e w' ⟨rfl, rfl⟩)
      go_loop [3, 4] (fun n i => ∃ k : Nat, k ≤ s.size ∧ i = .int .i64 k ∧ n = .int .i64 (digVal 0 (s.data.toList.take k)) ∧ ∀ j (hj : j < s.size), j < k → isDig s[j] = true) (fun _ i => s.size - (intOf i).toNat)
      case atStart => exact ⟨0, Nat.zero_le _, rfl, rfl, fun j hj h => by omega⟩
      case round =>
        obtain ⟨k, hk, rfl, rfl, ha⟩ := hrel
        have HA : Hid (∀ j (hj : j < s.size), j < k → isDig s[j] = true) := ha
        obtain ⟨b0, b1⟩ := dig_bd hk hl2 ha
        clear ha
        by_cases hlt : k < s.size
        · by_cases hd : isDig s[k] = true
          · have HD : Hid (isDig s[k] = true) := hd
            obtain ⟨c1, c2⟩ := isDig_bd hd
            have c1 : (48 : Int) ≤ (s[k].toNat : Int) := by omega
            have c2 : (s[k].toNat : Int) ≤ 57 := by omega
            clear hd
            go_wp2
            go_round
            case rel => exact ⟨k + 1, by omega, by go_num, dig_val hlt, dig_step hlt HA.out HD.out⟩
            case measure => simp [intOf]; omega
          · have hd0 : isDig s[k] = false := by simpa using hd
            have HF : Hid (numV s.data.toList = -1) := numV_no (numGood_at (k := k) (by simpa using hlt) (by rw [bget s k hlt]; exact hd0))
            rcases digNot hd0 with c1 | c1
            · clear hd hd0
              go_wp2
              go_ret
              exact ⟨ret_int HF.out.symm, rfl⟩
            · have c2 : ¬ ((s[k].toNat : Int) < 48) := by omega
              clear hd hd0
              go_wp2
              go_ret
              exact ⟨ret_int HF.out.symm, rfl⟩
        · have hke : s.data.toList.take k = s.data.toList := List.take_of_length_le (by simp; omega)
          have HF : Hid (numV s.data.toList = digVal 0 s.data.toList) := numV_yes (numGood_good (by simpa using hl1) (by simpa using hl2) HZ.out (fun i hi => by rw [bget s i (by simpa using hi)]; exact HA.out i _ (by simp at hi; omega)))
          rw [hke] at b0 b1
          rw [hke]
          clear hke
          go_wp2
          go_ret
          exact ⟨ret_int HF.out.symm, rfl⟩
    · have HZ : Hid (¬ (1 < s.data.toList.length ∧ s.data.toList.head? = some 48)) := fun h => h1 (by simpa using h.1)
      go_enter Tryz.func17, Tryz.ntmps17
      go_wp2_with (go_at_call 19; refine (HT.out _ _ _ _ (by omega)).mono ?_; rintro e w' ⟨rfl, rfl⟩)
      go_loop [3, 4] (fun n i => ∃ k : Nat, k ≤ s.size ∧ i = .int .i64 k ∧ n = .int .i64 (digVal 0 (s.data.toList.take k)) ∧ ∀ j (hj : j < s.size), j < k → isDig s[j] = true) (fun _ i => s.size - (intOf i).toNat)
      case atStart => exact ⟨0, Nat.zero_le _, rfl, rfl, fun j hj h => by omega⟩
      case round =>
        obtain ⟨k, hk, rfl, rfl, ha⟩ := hrel
        have HA : Hid (∀ j (hj : j < s.size), j < k → isDig s[j] = true) := ha
        obtain ⟨b0, b1⟩ := dig_bd hk hl2 ha
        clear ha
        by_cases hlt : k < s.size
        · by_cases hd : isDig s[k] = true
          · have HD : Hid (isDig s[k] = true) := hd
            obtain ⟨c1, c2⟩ := isDig_bd hd
            have c1 : (48 : Int) ≤ (s[k].toNat : Int) := by omega
            have c2 : (s[k].toNat : Int) ≤ 57 := by omega
            clear hd
            go_wp2
            go_round
            case rel => exact ⟨k + 1, by omega, by go_num, dig_val hlt, dig_step hlt HA.out HD.out⟩
            case measure => simp [intOf]; omega
          · have hd0 : isDig s[k] = false := by simpa using hd
            have HF : Hid (numV s.data.toList = -1) := numV_no (numGood_at (k := k) (by simpa using hlt) (by rw [bget s k hlt]; exact hd0))
            rcases digNot hd0 with c1 | c1
            · clear hd hd0
              go_wp2
              go_ret
              exact ⟨ret_int HF.out.symm, rfl⟩
            · have c2 : ¬ ((s[k].toNat : Int) < 48) := by omega
              clear hd hd0
              go_wp2
              go_ret
              exact ⟨ret_int HF.out.symm, rfl⟩
        · have hke : s.data.toList.take k = s.data.toList := List.take_of_length_le (by simp; omega)
          have HF : Hid (numV s.data.toList = digVal 0 s.data.toList) := numV_yes (numGood_good (by simpa using hl1) (by simpa using hl2) HZ.out (fun i hi => by rw [bget s i (by simpa using hi)]; exact HA.out i _ (by simp at hi; omega)))
          rw [hke] at b0 b1
          rw [hke]
          clear hke
          go_wp2
          go_ret
          exact ⟨ret_int HF.out.symm, rfl⟩
  · have HF : Hid (numV s.data.toList = -1) := numV_no (numGood_len (by simpa using hl))
    go_enter Tryz.func17, Tryz.ntmps17
    go_wp2_with (go_at_call 19; refine (HN.out _ _ _ _ (by omega)).mono ?_; rintro e w' ⟨rfl, rfl⟩)
    go_ret
    exact ⟨ret_int HF.out.symm, rfl⟩
end Cal
end Go.Proofs.YtdanfekodmncmaaGreatDoor
