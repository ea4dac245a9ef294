/- The program's small functions of entries: numbers, ids, keys, the first of numbers, the word of a name. -/
import Derived.Test.YtmfibpfnbhhoaaaDoorHW1
import Derived.Test.YtmfibpfnbhhoaaaDoorHW5
import Derived.Test.YtmfibpfnbhhoaaaDoorSHT
namespace Go.Proofs.YtmfibpfnbhhoaaaDoor
set_option linter.unusedVariables false
set_option linter.unusedSimpArgs false
open Go.RowKit Go

def between (lo hi n : Int) : Bool := decide (lo ≤ n ∧ n ≤ hi)
set_option maxHeartbeats 400000 in
theorem isNum (n : Int) (w : World) :
    Calls Tryd.prog 52 #[.int .i64 n] w fun e w' => e = .returned (.bool (numIn n)) ∧ w' = w := by
  by_cases h : -9999 ≤ n ∧ n ≤ 9999
  · obtain ⟨h1, h2⟩ := h
    have HF : Hid (numIn n = true) := decide_eq_true ⟨h1, h2⟩
    have d2 : decide (n ≤ 9999) = true := decide_eq_true h2
    go_enter Tryd.func52, Tryd.ntmps52
    go_wp2
    go_ret
    exact ⟨ret_bool (by rw [HF.out]), rfl⟩
  · have HF : Hid (numIn n = false) := decide_eq_false h
    by_cases h1 : -9999 ≤ n
    · have d2 : decide (n ≤ 9999) = false := decide_eq_false (by omega)
      go_enter Tryd.func52, Tryd.ntmps52
      go_wp2
      go_ret
      exact ⟨ret_bool (by rw [HF.out]), rfl⟩
    · have d2 : decide (-9999 ≤ n) = false := decide_eq_false h1
      go_enter Tryd.func52, Tryd.ntmps52
      go_wp2
      go_ret
      exact ⟨ret_bool (by rw [HF.out]), rfl⟩
set_option maxHeartbeats 400000 in
theorem isId (n : Int) (w : World) :
    Calls Tryd.prog 45 #[.int .i64 n] w fun e w' => e = .returned (.bool (between 1 9999 n)) ∧ w' = w := by
  by_cases h : 1 ≤ n ∧ n ≤ 9999
  · obtain ⟨h1, h2⟩ := h
    have HF : Hid (between 1 9999 n = true) := decide_eq_true ⟨h1, h2⟩
    have d2 : decide (n ≤ 9999) = true := decide_eq_true h2
    go_enter Tryd.func45, Tryd.ntmps45
    go_wp2
    go_ret
    exact ⟨ret_bool (by rw [HF.out]), rfl⟩
  · have HF : Hid (between 1 9999 n = false) := decide_eq_false h
    by_cases h1 : 1 ≤ n
    · have d2 : decide (n ≤ 9999) = false := decide_eq_false (by omega)
      go_enter Tryd.func45, Tryd.ntmps45
      go_wp2
      go_ret
      exact ⟨ret_bool (by rw [HF.out]), rfl⟩
    · have d2 : decide (1 ≤ n) = false := decide_eq_false h1
      go_enter Tryd.func45, Tryd.ntmps45
      go_wp2
      go_ret
      exact ⟨ret_bool (by rw [HF.out]), rfl⟩

set_option maxHeartbeats 400000 in
theorem allNums (a : Option Addr) (len cap : Nat) (zs : List Int) (w : World) (hr : IsRow .i64 w a len cap zs) :
    Calls Tryd.prog 42 #[.slice a len cap] w fun e w' => e = .returned (.bool (numsIn zs)) ∧ w' = w := by
  obtain ⟨hz, hm⟩ := hr.len
  unfold maxLen at hm
  have HR : Hid (IsRow .i64 w a len cap zs) := hr
  clear hr
  have HN : Hid (∀ n w, Calls Tryd.prog 52 #[.int .i64 n] w fun e w' => e = .returned (.bool (numIn n)) ∧ w' = w) := isNum
  go_enter Tryd.func42, Tryd.ntmps42
  go_wp2
  go_loop [7] (fun i => ∃ k : Nat, k ≤ len ∧ i = .int .i64 k ∧ ∀ i (hi : i < zs.length), i < k → numIn (zs.getD i 0) = true) (fun i => len - (intOf i).toNat)
  case atStart => exact ⟨0, Nat.zero_le _, rfl, fun i _ h => by omega⟩
  case round =>
    obtain ⟨k, hk, rfl, ha⟩ := hrel
    have HA : Hid (∀ i (hi : i < zs.length), i < k → numIn (zs.getD i 0) = true) := ha
    clear ha
    by_cases hlt : k < len
    · obtain ⟨b, off, rfl, h1, h2, hc⟩ := IsRow.at HR.out hlt
      have HNk := fun w => HN.out (zs.getD k 0) w
      by_cases hn : numIn (zs.getD k 0) = true
      · rw [hn] at HNk
        have HNk : Hid _ := HNk
        have HA' : Hid (∀ i (hi : i < zs.length), i < k + 1 → numIn (zs.getD i 0) = true) := fun i hi hik => by
          by_cases e : i = k
          · subst e; exact hn
          · exact HA.out i hi (by omega)
        clear hn
        generalize zs.getD k 0 = z at HNk hc
        go_wp2_with (go_at_call 52; refine (HNk.out _).mono ?_; rintro e w' ⟨rfl, rfl⟩)
        go_round
        case rel => exact ⟨k + 1, by omega, by go_num, HA'.out⟩
        case measure => simp [intOf]; omega
      · have hn : numIn (zs.getD k 0) = false := by simpa using hn
        have HF : Hid (numsIn zs = false) := numsIn_no (by omega) hn
        rw [hn] at HNk
        have HNk : Hid _ := HNk
        clear hn
        generalize zs.getD k 0 = z at HNk hc
        go_wp2_with (go_at_call 52; refine (HNk.out _).mono ?_; rintro e w' ⟨rfl, rfl⟩)
        go_ret
        exact ⟨ret_bool HF.out.symm, rfl⟩
    · have HF : Hid (numsIn zs = true) := numsIn_yes fun i hi => HA.out i hi (by omega)
      go_wp2
      go_ret
      exact ⟨ret_bool HF.out.symm, rfl⟩

/-- What the program's isKey asks: only signs of keys. -/
def keyCut : ByteArray := ⟨#[48, 49, 50, 51, 52, 53, 54, 55, 56, 57, 46, 45]⟩
set_option maxRecDepth 100000 in
theorem keyc_cut (c : UInt8) : keyCut.data.toList.contains c = keyc c := by
  have h : ∀ n : Fin 256, keyCut.data.toList.contains (UInt8.ofFin n) = keyc (UInt8.ofFin n) := by decide
  exact h c.toFin
theorem dropWhile_nil (p : UInt8 → Bool) (l : List UInt8) : l.dropWhile p = [] ↔ ∀ c ∈ l, p c = true := by
  induction l with
  | nil => simp
  | cons x r ih =>
    by_cases h : p x = true
    · rw [List.dropWhile_cons_of_pos h, ih]; simp [h]
    · rw [List.dropWhile_cons_of_neg h]; simp [h]
theorem dropWhile_none {p : UInt8 → Bool} {l : List UInt8} (h : ∀ c ∈ l.dropWhile p, p c = true) : l.dropWhile p = [] := by
  cases hd : l.dropWhile p with
  | nil => rfl
  | cons x r =>
    have h1 := h x (by rw [hd]; exact List.mem_cons_self)
    have h2 := List.head_dropWhile_not (p := p) (l := l) (by rw [hd]; simp)
    simp only [hd, List.head_cons] at h2
    rw [h1] at h2; cases h2
theorem trim_all (l cs : List UInt8) : (Lib.trimS l cs = []) ↔ ∀ c ∈ l, cs.contains c = true := by
  unfold Lib.trimS Lib.trimRightS Lib.trimLeftS
  rw [dropWhile_nil]
  constructor
  · intro h
    have h1 := dropWhile_none (p := (cs.contains ·)) (l := l.reverse) (fun c hc => h c (by simpa using hc))
    rw [dropWhile_nil] at h1
    intro c hc
    exact h1 c (by simpa using hc)
  · intro h
    have h1 : List.dropWhile (cs.contains ·) l.reverse = [] := by
      rw [dropWhile_nil]; intro c hc; exact h c (by simpa using hc)
    rw [h1]; simp
theorem trim_key (l : List UInt8) : decide (Lib.trimS l keyCut.data.toList = []) = l.all keyc := by
  rw [Bool.eq_iff_iff, decide_eq_true_iff, trim_all, List.all_eq_true]
  constructor
  · intro h c hc; rw [← keyc_cut]; exact h c hc
  · intro h c hc; rw [keyc_cut]; exact h c hc

set_option maxHeartbeats 400000 in
theorem isKey (s : ByteArray) (w : World) (hs : s.size ≤ maxLen) :
    Calls Tryd.prog 44 #[.string s] w fun e w' => e = .returned (.bool (s.data.toList.all keyc)) ∧ Below w.heap.size w w' := by
  have HF : Hid (decide (Lib.trimS s.data.toList keyCut.data.toList = []) = s.data.toList.all keyc) := trim_key _
  have HT : Hid (∀ w, Calls Tryd.prog 53 #[.string s, .string keyCut] w fun e w' => e = .returned (.string ⟨(Lib.trimS s.data.toList keyCut.data.toList).toArray⟩) ∧ Below w.heap.size w w') := fun w => strings_Trim s keyCut w hs (by decide) (ascii_of_all (by decide))
  have e0 : keyCut = ⟨#[48, 49, 50, 51, 52, 53, 54, 55, 56, 57, 46, 45]⟩ := rfl
  generalize Lib.trimS s.data.toList keyCut.data.toList = r at HF HT
  rw [e0] at HT
  go_enter Tryd.func44, Tryd.ntmps44
  go_wp2_with (go_at_call 53; refine (HT.out _).mono ?_; rintro e w1 ⟨rfl, hw1⟩)
  go_ret
  refine ⟨ret_bool ?_, hw1⟩
  rw [← HF.out]
  cases r <;> rfl

set_option maxHeartbeats 400000 in
theorem firstOf (a : Option Addr) (len cap : Nat) (zs : List Int) (w : World) (hr : IsRow .i64 w a len cap zs) :
    Calls Tryd.prog 41 #[.slice a len cap] w fun e w' => e = .returned (.int .i64 (zs.getD 0 0)) ∧ w' = w := by
  obtain ⟨hz, hm⟩ := hr.len
  unfold maxLen at hm
  by_cases h0 : len = 0
  · subst h0
    have : zs = [] := List.length_eq_zero_iff.1 hz
    subst this
    go_enter Tryd.func41, Tryd.ntmps41
    go_wp2
    go_ret
    exact ⟨rfl, rfl⟩
  · obtain ⟨b, off, rfl, h1, h2, hc⟩ := IsRow.at hr (i := 0) (by omega)
    have hp : 0 < len := by omega
    have hb : ((len : Int) == 0) = false := by simpa using h0
    clear hr
    rw [Nat.add_zero] at hc
    generalize zs.getD 0 0 = z at hc
    go_enter Tryd.func41, Tryd.ntmps41
    go_wp2
    go_ret
    exact ⟨rfl, rfl⟩

set_option maxHeartbeats 400000 in
theorem nameWord (s : ByteArray) (w : World) :
    Calls Tryd.prog 34 #[.string s] w fun e w' => e = .returned (.string (nmT s)) ∧ w' = w := by
  by_cases h : s.toList = []
  · have hb : s.toList.isEmpty = true := by simpa using h
    have HF : Hid (nmT s = ⟨#[45]⟩) := if_pos h
    go_enter Tryd.func34, Tryd.ntmps34
    go_wp2
    all_goals go_ret
    all_goals exact ⟨by rw [HF.out]; rfl, rfl⟩
  · have hb : s.toList.isEmpty = false := by simpa using h
    have HF : Hid (nmT s = s) := if_neg h
    go_enter Tryd.func34, Tryd.ntmps34
    go_wp2
    all_goals go_ret
    all_goals exact ⟨by rw [HF.out]; rfl, rfl⟩
end Go.Proofs.YtmfibpfnbhhoaaaDoor
