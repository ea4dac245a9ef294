/- The model's numbers and keys of chapter 11. -/
import Derived.Test.YtmfibpfnbhhoaaaDoorB2
import Derived.Test.YtmfibpfnbhhoaaaDoorS1
namespace Go.Proofs.YtmfibpfnbhhoaaaDoor
set_option linter.unusedVariables false
set_option linter.unusedSimpArgs false
open Go.RowKit Go

theorem l1In_d (n lo hi : Int) (w : World) :
    Calls Tryd.prog 38 #[.int .i64 n, .int .i64 lo, .int .i64 hi] w fun e w' => e = .returned (.bool (decide (lo ≤ n ∧ n ≤ hi))) ∧ w' = w := by
  by_cases h : lo ≤ n ∧ n ≤ hi
  · rw [decide_eq_true h]; exact l1In_t n lo hi w h.1 h.2
  · rw [decide_eq_false h]; exact l1In_f n lo hi w (by omega)

/-- A number of the workflows: -9999 to 9999. -/
def numIn (n : Int) : Bool := decide (-9999 ≤ n ∧ n ≤ 9999)

set_option maxHeartbeats 400000 in
theorem l11Num (n : Int) (w : World) :
    Calls Tryd.prog 51 #[.int .i64 n] w fun e w' => e = .returned (.bool (numIn n)) ∧ w' = w := by
  have HI : Hid (∀ w, Calls Tryd.prog 38 #[.int .i64 n, .int .i64 (-9999), .int .i64 9999] w fun e w' => e = .returned (.bool (numIn n)) ∧ w' = w) := fun w => l1In_d n (-9999) 9999 w
  go_enter Tryd.func51, Tryd.ntmps51
  go_wp2_with (go_at_call 38; refine (HI.out _).mono ?_; rintro e w' ⟨rfl, rfl⟩)
  go_ret
  exact ⟨rfl, rfl⟩

def numsIn (zs : List Int) : Bool := zs.all numIn
theorem numsIn_no {zs : List Int} {k : Nat} (hk : k < zs.length) (h : numIn (zs.getD k 0) = false) : numsIn zs = false := by
  rw [getD_at zs k hk] at h
  rw [numsIn, List.all_eq_false]; exact ⟨_, List.getElem_mem hk, by simp [h]⟩
theorem numsIn_yes {zs : List Int} (h : ∀ i (hi : i < zs.length), numIn (zs.getD i 0) = true) : numsIn zs = true := by
  rw [numsIn, List.all_eq_true]; intro x hx; obtain ⟨i, hi, rfl⟩ := List.mem_iff_getElem.1 hx; have := h i hi; rwa [getD_at zs i hi] at this

set_option maxHeartbeats 400000 in
theorem l11Nums (a : Option Addr) (len cap : Nat) (zs : List Int) (w : World) (hr : IsRow .i64 w a len cap zs) :
    Calls Tryd.prog 37 #[.slice a len cap] w fun e w' => e = .returned (.bool (numsIn zs)) ∧ w' = w := by
  obtain ⟨hz, hm⟩ := hr.len
  unfold maxLen at hm
  have HR : Hid (IsRow .i64 w a len cap zs) := hr
  clear hr
  have HN : Hid (∀ n w, Calls Tryd.prog 51 #[.int .i64 n] w fun e w' => e = .returned (.bool (numIn n)) ∧ w' = w) := l11Num
  go_enter Tryd.func37, Tryd.ntmps37
  go_wp2
  go_loop [3] (fun i => ∃ k : Nat, k ≤ len ∧ i = .int .i64 k ∧ ∀ i (hi : i < zs.length), i < k → numIn (zs.getD i 0) = true) (fun i => len - (intOf i).toNat)
  case atStart => exact ⟨0, Nat.zero_le _, rfl, fun i _ h => by omega⟩
  case round =>
    obtain ⟨k, hk, rfl, ha⟩ := hrel
    have HA : Hid (∀ i (hi : i < zs.length), i < k → numIn (zs.getD i 0) = true) := ha
    clear ha
    by_cases hlt : k < len
    · obtain ⟨b, off, rfl, h1, h2, hc⟩ := IsRow.at HR.out hlt
      have HNk := fun w => HN.out (zs.getD k 0) w
      by_cases hn : numIn (zs.getD k 0) = true
      · rw [hn] at HNk
        have HNk : Hid _ := HNk
        have HA' : Hid (∀ i (hi : i < zs.length), i < k + 1 → numIn (zs.getD i 0) = true) := fun i hi hik => by
          by_cases e : i = k
          · subst e; exact hn
          · exact HA.out i hi (by omega)
        clear hn
        generalize zs.getD k 0 = z at HNk hc
        go_wp2_with (go_at_call 51; refine (HNk.out _).mono ?_; rintro e w' ⟨rfl, rfl⟩)
        go_round
        case rel => exact ⟨k + 1, by omega, by go_num, HA'.out⟩
        case measure => simp [intOf]; omega
      · have hn : numIn (zs.getD k 0) = false := by simpa using hn
        rw [hn] at HNk
        have HNk : Hid _ := HNk
        have HF : Hid (numsIn zs = false) := numsIn_no (by omega) hn
        clear hn
        generalize zs.getD k 0 = z at HNk hc
        go_wp2_with (go_at_call 51; refine (HNk.out _).mono ?_; rintro e w' ⟨rfl, rfl⟩)
        go_ret
        exact ⟨ret_bool HF.out.symm, rfl⟩
    · have HF : Hid (numsIn zs = true) := numsIn_yes fun i hi => HA.out i hi (by omega)
      go_wp2
      go_ret
      exact ⟨ret_bool HF.out.symm, rfl⟩

/-- A byte of a key: a figure, a point, a stroke. -/
def keyc (c : UInt8) : Bool := decide (c.toNat = 46) || decide (c.toNat = 45) || isDig c
def keyOk (s : List UInt8) : Bool := s.all keyc && decide (1 ≤ s.length) && decide (s.length ≤ 24)
theorem keyOk_bad_at (s : List UInt8) (k : Nat) (hk : k < s.length) (h : keyc s[k] = false) : keyOk s = false := by
  have : s.all keyc = false := by
    rw [List.all_eq_false]; exact ⟨s[k], List.getElem_mem hk, by simp [h]⟩
  simp [keyOk, this]
theorem keyOk_all (s : List UInt8) (h : ∀ i (hi : i < s.length), keyc s[i] = true) : keyOk s = decide ((1 : Int) ≤ (s.length : Int) ∧ (s.length : Int) ≤ 24) := by
  have : s.all keyc = true := by
    rw [List.all_eq_true]; intro x hx; obtain ⟨i, hi, rfl⟩ := List.mem_iff_getElem.1 hx; exact h i hi
  simp only [keyOk, this, Bool.true_and]
  rw [← Bool.decide_and]
  exact decide_eq_decide.2 (by omega)

set_option maxHeartbeats 1000000 in
theorem l11Key (s : ByteArray) (w : World) (hs : s.size ≤ maxLen) :
    Calls Tryd.prog 40 #[.string s] w fun e w' => e = .returned (.bool (keyOk s.data.toList)) ∧ w' = w := by
  unfold maxLen at hs
  have HI : Hid (∀ n w, Calls Tryd.prog 38 #[.int .i64 n, .int .i64 1, .int .i64 24] w fun e w' => e = .returned (.bool (decide (1 ≤ n ∧ n ≤ 24))) ∧ w' = w) := fun n w => l1In_d n 1 24 w
  go_enter Tryd.func40, Tryd.ntmps40
  go_wp2
  go_loop [3] (fun i => ∃ k : Nat, k ≤ s.size ∧ i = .int .i64 k ∧ ∀ j (hj : j < s.size), j < k → keyc s[j] = true) (fun i => s.size - (intOf i).toNat)
  case atStart => exact ⟨0, Nat.zero_le _, rfl, fun j hj h => by omega⟩
  case round =>
    obtain ⟨k, hk, rfl, ha⟩ := hrel
    have HA : Hid (∀ j (hj : j < s.size), j < k → keyc s[j] = true) := ha
    clear ha
    by_cases hlt : k < s.size
    · by_cases hw : keyc s[k] = true
      · have HA' : Hid (∀ j (hj : j < s.size), j < k + 1 → keyc s[j] = true) := fun j hj hjk => by
          by_cases e : j = k
          · subst e; exact hw
          · exact HA.out j hj (by omega)
        have hw' : (s[k].toNat : Int) = 46 ∨ ((s[k].toNat : Int) ≠ 46 ∧ (s[k].toNat : Int) = 45) ∨ ((s[k].toNat : Int) ≠ 46 ∧ (s[k].toNat : Int) ≠ 45 ∧ (48 : Int) ≤ (s[k].toNat : Int) ∧ (s[k].toNat : Int) ≤ 57) := by
          simp only [keyc, isDig, Bool.or_eq_true, Bool.and_eq_true, decide_eq_true_eq] at hw; omega
        clear hw
        rcases hw' with c1 | ⟨c1, c2⟩ | ⟨c1, c2, c3, c4⟩
        all_goals
          go_wp2
          go_round
          case rel => exact ⟨k + 1, by omega, by go_num, HA'.out⟩
          case measure => simp [intOf]; omega
      · have hw0 : keyc s[k] = false := by simpa using hw
        have HF : Hid (keyOk s.data.toList = false) := keyOk_bad_at _ k (by simpa using hlt) (by rw [bget s k hlt]; exact hw0)
        have hw' : (s[k].toNat : Int) ≠ 46 ∧ (s[k].toNat : Int) ≠ 45 ∧ ((s[k].toNat : Int) < 48 ∨ (57 : Int) < (s[k].toNat : Int)) := by
          simp only [keyc, isDig, Bool.or_eq_true, Bool.and_eq_true, decide_eq_true_eq] at hw; omega
        clear hw hw0
        obtain ⟨c1, c2, c3⟩ := hw'
        have d1 : ((s[k].toNat : Int) == 46) = false := by simpa using c1
        have d2 : ((s[k].toNat : Int) == 45) = false := by simpa using c2
        rcases c3 with c3 | c3
        · go_wp2
          go_ret
          exact ⟨ret_bool HF.out.symm, rfl⟩
        · have c4 : (48 : Int) ≤ (s[k].toNat : Int) := by omega
          have c5 : ¬ ((s[k].toNat : Int) ≤ 57) := by omega
          clear c3
          go_wp2
          go_ret
          exact ⟨ret_bool HF.out.symm, rfl⟩
    · have hf : keyOk s.data.toList = (decide ((1 : Int) ≤ (s.size : Int)) && decide ((s.size : Int) ≤ 24)) := by
        have := keyOk_all s.data.toList (fun i hi => by rw [bget s i (by simpa using hi)]; exact HA.out i _ (by simp at hi; omega))
        simpa using this
      have HF : Hid _ := hf
      clear hf
      go_wp2_with (go_at_call 38; refine (HI.out _ _).mono ?_; rintro e w' ⟨rfl, rfl⟩)
      go_ret
      exact ⟨ret_bool HF.out.symm, rfl⟩
end Go.Proofs.YtmfibpfnbhhoaaaDoor
