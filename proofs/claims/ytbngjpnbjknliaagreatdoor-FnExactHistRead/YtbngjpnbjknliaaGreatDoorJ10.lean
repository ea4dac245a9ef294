/- The program's isName: what the model's l1NameOk says. -/
import Derived.Shelf.Strings.Trim
import Derived.Shelf.Strings.SlTrimAscii
import Derived.Test.YtbngjpnbjknliaaGreatDoorProg
import Derived.Test.YtbngjpnbjknliaaGreatDoorJ1
import Derived.Test.YtbngjpnbjknliaaGreatDoorJ4
import Derived.BigQuiet
import Derived.Laws.RangeString
import Derived.Laws.RangeAny
namespace Go.Proofs.YtbngjpnbjknliaaGreatDoor
set_option linter.unusedVariables false
set_option linter.unusedSimpArgs false
open Go.Shelf Go
def lays160_ren : Go.Shelf.Ren := ⟨fun | 160 => 87 | 232 => 96 | 231 => 95 | 227 => 97 | 234 => 99 | 233 => 98 | 236 => 101 | 235 => 100 | 228 => 108 | 271 => 110 | 151 => 109 | 197 => 64 | 120 => 117 | 152 => 116 | 260 => 81 | 137 => 120 | 119 => 121 | 224 => 84 | 225 => 83 | 217 => 82 | 266 => 93 | n => n, fun | 9 => 9 | 4 => 4 | 3 => 3 | 5 => 5 | 117 => 132 | 116 => 131 | 0 => 0 | 124 => 135 | 21 => 21 | 105 => 101 | 46 => 106 | 119 => 123 | 139 => 126 | 138 => 125 | n => n, fun | 3 => 3 | 4 => 4 | n => n⟩
theorem lays160 : Go.Proofs.Lays.n160 Tryz.prog lays160_ren := {
  mixed := by kernel_rfl
  f119 := Tryz.func121.trans (congrArg some (by kernel_rfl))
  f120 := Tryz.func117.trans (congrArg some (by kernel_rfl))
  f137 := Tryz.func120.trans (congrArg some (by kernel_rfl))
  f151 := Tryz.func109.trans (congrArg some (by kernel_rfl))
  f152 := Tryz.func116.trans (congrArg some (by kernel_rfl))
  f160 := Tryz.func87.trans (congrArg some (by kernel_rfl))
  f197 := Tryz.func64.trans (congrArg some (by kernel_rfl))
  f217 := Tryz.func82.trans (congrArg some (by kernel_rfl))
  f224 := Tryz.func84.trans (congrArg some (by kernel_rfl))
  f225 := Tryz.func83.trans (congrArg some (by kernel_rfl))
  f227 := Tryz.func97.trans (congrArg some (by kernel_rfl))
  f228 := Tryz.func108.trans (congrArg some (by kernel_rfl))
  f231 := Tryz.func95.trans (congrArg some (by kernel_rfl))
  f232 := Tryz.func96.trans (congrArg some (by kernel_rfl))
  f233 := Tryz.func98.trans (congrArg some (by kernel_rfl))
  f234 := Tryz.func99.trans (congrArg some (by kernel_rfl))
  f235 := Tryz.func100.trans (congrArg some (by kernel_rfl))
  f236 := Tryz.func101.trans (congrArg some (by kernel_rfl))
  f260 := Tryz.func81.trans (congrArg some (by kernel_rfl))
  f266 := Tryz.func93.trans (congrArg some (by kernel_rfl))
  f271 := Tryz.func110.trans (congrArg some (by kernel_rfl))
  t0 := Tryz.underlying0
  a0 := Tryz.isAgg0
  z0 := Tryz.sizeOf0
  v0 := Tryz.zeroValue0
  t3 := Tryz.underlying3
  a3 := Tryz.isAgg3
  z3 := Tryz.sizeOf3
  v3 := Tryz.zeroValue3
  t4 := Tryz.underlying4
  a4 := Tryz.isAgg4
  z4 := Tryz.sizeOf4
  v4 := Tryz.zeroValue4
  t5 := Tryz.underlying5
  a5 := Tryz.isAgg5
  z5 := Tryz.sizeOf5
  v5 := Tryz.zeroValue5
  t9 := Tryz.underlying9
  a9 := Tryz.isAgg9
  z9 := Tryz.sizeOf9
  v9 := Tryz.zeroValue9
  t21 := Tryz.underlying21
  a21 := Tryz.isAgg21
  z21 := Tryz.sizeOf21
  v21 := Tryz.zeroValue21
  t46 := Tryz.underlying106
  a46 := Tryz.isAgg106
  z46 := Tryz.sizeOf106
  v46 := Tryz.zeroValue106
  t105 := Tryz.underlying101
  a105 := Tryz.isAgg101
  z105 := Tryz.sizeOf101
  v105 := Tryz.zeroValue101
  t116 := Tryz.underlying131
  a116 := Tryz.isAgg131
  z116 := Tryz.sizeOf131
  t117 := Tryz.underlying132
  a117 := Tryz.isAgg132
  z117 := Tryz.sizeOf132
  v117 := Tryz.zeroValue132
  t119 := Tryz.underlying123
  a119 := Tryz.isAgg123
  z119 := Tryz.sizeOf123
  t124 := Tryz.underlying135
  a124 := Tryz.isAgg135
  z124 := Tryz.sizeOf135
  v124 := Tryz.zeroValue135
  t138 := Tryz.underlying125
  a138 := Tryz.isAgg125
  z138 := Tryz.sizeOf125
  v138 := Tryz.zeroValue125
  t139 := Tryz.underlying126
  a139 := Tryz.isAgg126
  z139 := Tryz.sizeOf126
  v139 := Tryz.zeroValue126
  g3 := by kernel_rfl
  g4 := by kernel_rfl }
theorem strings_Trim (s cutset : ByteArray) (w : World) (hs : s.size ≤ 9223372036854775807) (hcs : cutset.size < 4294967281) (hascii : ∀ (j : Nat) b, cutset.data.toList[j]? = some b → b.toNat < 128) :
    Calls Tryz.prog 87 #[.string s, .string cutset] w fun e w' => e = .returned (.string ⟨(Lib.trimS s.data.toList cutset.data.toList).toArray⟩) ∧ RowKit.Below w.heap.size w w' := Any.strings_Trim_laid lays160 (by kernel_rfl) s cutset w hs hcs hascii
end Go.Proofs.YtbngjpnbjknliaaGreatDoor

namespace Go.Proofs.YtbngjpnbjknliaaGreatDoor
set_option linter.unusedVariables false
set_option linter.unusedSimpArgs false
open Go.RowKit Go

def between (lo hi n : Int) : Bool := decide (lo ≤ n ∧ n ≤ hi)
set_option maxHeartbeats 400000 in
theorem isNum (n : Int) (w : World) :
    Calls Tryz.prog 86 #[.int .i64 n] w fun e w' => e = .returned (.bool (numIn n)) ∧ w' = w := by
  by_cases h : -9999 ≤ n ∧ n ≤ 9999
  · obtain ⟨h1, h2⟩ := h
    have HF : Hid (numIn n = true) := decide_eq_true ⟨h1, h2⟩
    have d2 : decide (n ≤ 9999) = true := decide_eq_true h2
    go_enter Tryz.func86, Tryz.ntmps86
    go_wp2
    go_ret
    exact ⟨ret_bool (by rw [HF.out]), rfl⟩
  · have HF : Hid (numIn n = false) := decide_eq_false h
    by_cases h1 : -9999 ≤ n
    · have d2 : decide (n ≤ 9999) = false := decide_eq_false (by omega)
      go_enter Tryz.func86, Tryz.ntmps86
      go_wp2
      go_ret
      exact ⟨ret_bool (by rw [HF.out]), rfl⟩
    · have d2 : decide (-9999 ≤ n) = false := decide_eq_false h1
      go_enter Tryz.func86, Tryz.ntmps86
      go_wp2
      go_ret
      exact ⟨ret_bool (by rw [HF.out]), rfl⟩
set_option maxHeartbeats 400000 in
theorem isId (n : Int) (w : World) :
    Calls Tryz.prog 71 #[.int .i64 n] w fun e w' => e = .returned (.bool (between 1 9999 n)) ∧ w' = w := by
  by_cases h : 1 ≤ n ∧ n ≤ 9999
  · obtain ⟨h1, h2⟩ := h
    have HF : Hid (between 1 9999 n = true) := decide_eq_true ⟨h1, h2⟩
    have d2 : decide (n ≤ 9999) = true := decide_eq_true h2
    go_enter Tryz.func71, Tryz.ntmps71
    go_wp2
    go_ret
    exact ⟨ret_bool (by rw [HF.out]), rfl⟩
  · have HF : Hid (between 1 9999 n = false) := decide_eq_false h
    by_cases h1 : 1 ≤ n
    · have d2 : decide (n ≤ 9999) = false := decide_eq_false (by omega)
      go_enter Tryz.func71, Tryz.ntmps71
      go_wp2
      go_ret
      exact ⟨ret_bool (by rw [HF.out]), rfl⟩
    · have d2 : decide (1 ≤ n) = false := decide_eq_false h1
      go_enter Tryz.func71, Tryz.ntmps71
      go_wp2
      go_ret
      exact ⟨ret_bool (by rw [HF.out]), rfl⟩

set_option maxHeartbeats 400000 in
theorem allNums (a : Option Addr) (len cap : Nat) (zs : List Int) (w : World) (hr : IsRow .i64 w a len cap zs) :
    Calls Tryz.prog 68 #[.slice a len cap] w fun e w' => e = .returned (.bool (numsIn zs)) ∧ w' = w := by
  obtain ⟨hz, hm⟩ := hr.len
  unfold maxLen at hm
  have HR : Hid (IsRow .i64 w a len cap zs) := hr
  clear hr
  have HN : Hid (∀ n w, Calls Tryz.prog 86 #[.int .i64 n] w fun e w' => e = .returned (.bool (numIn n)) ∧ w' = w) := isNum
  go_enter Tryz.func68, Tryz.ntmps68
  go_wp2
  go_loop [7] (fun i => ∃ k : Nat, k ≤ len ∧ i = .int .i64 k ∧ ∀ i (hi : i < zs.length), i < k → numIn (zs.getD i 0) = true) (fun i => len - (intOf i).toNat)
  case atStart => exact ⟨0, Nat.zero_le _, rfl, fun i _ h => by omega⟩
  case round =>
    obtain ⟨k, hk, rfl, ha⟩ := hrel
    have HA : Hid (∀ i (hi : i < zs.length), i < k → numIn (zs.getD i 0) = true) := ha
    clear ha
    by_cases hlt : k < len
    · obtain ⟨b, off, rfl, h1, h2, hc⟩ := IsRow.at HR.out hlt
      have HNk := fun w => HN.out (zs.getD k 0) w
      by_cases hn : numIn (zs.getD k 0) = true
      · rw [hn] at HNk
        have HNk : Hid _ := HNk
        have HA' : Hid (∀ i (hi : i < zs.length), i < k + 1 → numIn (zs.getD i 0) = true) := fun i hi hik => by
          by_cases e : i = k
          · subst e; exact hn
          · exact HA.out i hi (by omega)
        clear hn
        generalize zs.getD k 0 = z at HNk hc
        go_wp2_with (go_at_call 86; refine (HNk.out _).mono ?_; rintro e w' ⟨rfl, rfl⟩)
        go_round
        case rel => exact ⟨k + 1, by omega, by go_num, HA'.out⟩
        case measure => simp [intOf]; omega
      · have hn : numIn (zs.getD k 0) = false := by simpa using hn
        have HF : Hid (numsIn zs = false) := numsIn_no (by omega) hn
        rw [hn] at HNk
        have HNk : Hid _ := HNk
        clear hn
        generalize zs.getD k 0 = z at HNk hc
        go_wp2_with (go_at_call 86; refine (HNk.out _).mono ?_; rintro e w' ⟨rfl, rfl⟩)
        go_ret
        exact ⟨ret_bool HF.out.symm, rfl⟩
    · have HF : Hid (numsIn zs = true) := numsIn_yes fun i hi => HA.out i hi (by omega)
      go_wp2
      go_ret
      exact ⟨ret_bool HF.out.symm, rfl⟩

/-- What the program's isKey asks: only signs of keys. -/
def keyCut : ByteArray := ⟨#[48, 49, 50, 51, 52, 53, 54, 55, 56, 57, 46, 45]⟩
set_option maxRecDepth 100000 in
theorem keyc_cut (c : UInt8) : keyCut.data.toList.contains c = keyc c := by
  have h : ∀ n : Fin 256, keyCut.data.toList.contains (UInt8.ofFin n) = keyc (UInt8.ofFin n) := by decide
  exact h c.toFin
theorem dropWhile_nil (p : UInt8 → Bool) (l : List UInt8) : l.dropWhile p = [] ↔ ∀ c ∈ l, p c = true := by
  induction l with
  | nil => simp
  | cons x r ih =>
    by_cases h : p x = true
    · rw [List.dropWhile_cons_of_pos h, ih]; simp [h]
    · rw [List.dropWhile_cons_of_neg h]; simp [h]
theorem dropWhile_none {p : UInt8 → Bool} {l : List UInt8} (h : ∀ c ∈ l.dropWhile p, p c = true) : l.dropWhile p = [] := by
  cases hd : l.dropWhile p with
  | nil => rfl
  | cons x r =>
    have h1 := h x (by rw [hd]; exact List.mem_cons_self)
    have h2 := List.head_dropWhile_not (p := p) (l := l) (by rw [hd]; simp)
    simp only [hd, List.head_cons] at h2
    rw [h1] at h2; cases h2
theorem trim_all (l cs : List UInt8) : (Lib.trimS l cs = []) ↔ ∀ c ∈ l, cs.contains c = true := by
  unfold Lib.trimS Lib.trimRightS Lib.trimLeftS
  rw [dropWhile_nil]
  constructor
  · intro h
    have h1 := dropWhile_none (p := (cs.contains ·)) (l := l.reverse) (fun c hc => h c (by simpa using hc))
    rw [dropWhile_nil] at h1
    intro c hc
    exact h1 c (by simpa using hc)
  · intro h
    have h1 : List.dropWhile (cs.contains ·) l.reverse = [] := by
      rw [dropWhile_nil]; intro c hc; exact h c (by simpa using hc)
    rw [h1]; simp
theorem trim_key (l : List UInt8) : decide (Lib.trimS l keyCut.data.toList = []) = l.all keyc := by
  rw [Bool.eq_iff_iff, decide_eq_true_iff, trim_all, List.all_eq_true]
  constructor
  · intro h c hc; rw [← keyc_cut]; exact h c hc
  · intro h c hc; rw [keyc_cut]; exact h c hc

set_option maxHeartbeats 400000 in
theorem isKey (s : ByteArray) (w : World) (hs : s.size ≤ maxLen) :
    Calls Tryz.prog 70 #[.string s] w fun e w' => e = .returned (.bool (s.data.toList.all keyc)) ∧ Below w.heap.size w w' := by
  have HF : Hid (decide (Lib.trimS s.data.toList keyCut.data.toList = []) = s.data.toList.all keyc) := trim_key _
  have HT : Hid (∀ w, Calls Tryz.prog 87 #[.string s, .string keyCut] w fun e w' => e = .returned (.string ⟨(Lib.trimS s.data.toList keyCut.data.toList).toArray⟩) ∧ Below w.heap.size w w') := fun w => strings_Trim s keyCut w hs (by decide) (ascii_of_all (by decide))
  have e0 : keyCut = ⟨#[48, 49, 50, 51, 52, 53, 54, 55, 56, 57, 46, 45]⟩ := rfl
  generalize Lib.trimS s.data.toList keyCut.data.toList = r at HF HT
  rw [e0] at HT
  go_enter Tryz.func70, Tryz.ntmps70
  go_wp2_with (go_at_call 87; refine (HT.out _).mono ?_; rintro e w1 ⟨rfl, hw1⟩)
  go_ret
  refine ⟨ret_bool ?_, hw1⟩
  rw [← HF.out]
  cases r <;> rfl

set_option maxHeartbeats 400000 in
theorem firstOf (a : Option Addr) (len cap : Nat) (zs : List Int) (w : World) (hr : IsRow .i64 w a len cap zs) :
    Calls Tryz.prog 67 #[.slice a len cap] w fun e w' => e = .returned (.int .i64 (zs.getD 0 0)) ∧ w' = w := by
  obtain ⟨hz, hm⟩ := hr.len
  unfold maxLen at hm
  by_cases h0 : len = 0
  · subst h0
    have : zs = [] := List.length_eq_zero_iff.1 hz
    subst this
    go_enter Tryz.func67, Tryz.ntmps67
    go_wp2
    go_ret
    exact ⟨rfl, rfl⟩
  · obtain ⟨b, off, rfl, h1, h2, hc⟩ := IsRow.at hr (i := 0) (by omega)
    have hp : 0 < len := by omega
    have hb : ((len : Int) == 0) = false := by simpa using h0
    clear hr
    rw [Nat.add_zero] at hc
    generalize zs.getD 0 0 = z at hc
    go_enter Tryz.func67, Tryz.ntmps67
    go_wp2
    go_ret
    exact ⟨rfl, rfl⟩

set_option maxHeartbeats 400000 in
theorem nameWord (s : ByteArray) (w : World) :
    Calls Tryz.prog 56 #[.string s] w fun e w' => e = .returned (.string (nmT s)) ∧ w' = w := by
  by_cases h : s.toList = []
  · have hb : s.toList.isEmpty = true := by simpa using h
    have HF : Hid (nmT s = ⟨#[45]⟩) := if_pos h
    go_enter Tryz.func56, Tryz.ntmps56
    go_wp2
    all_goals go_ret
    all_goals exact ⟨by rw [HF.out]; rfl, rfl⟩
  · have hb : s.toList.isEmpty = false := by simpa using h
    have HF : Hid (nmT s = s) := if_neg h
    go_enter Tryz.func56, Tryz.ntmps56
    go_wp2
    all_goals go_ret
    all_goals exact ⟨by rw [HF.out]; rfl, rfl⟩
end Go.Proofs.YtbngjpnbjknliaaGreatDoor

namespace Go.Proofs.YtbngjpnbjknliaaGreatDoor
set_option linter.unusedVariables false
set_option linter.unusedSimpArgs false
open Go.RowKit Go


set_option maxHeartbeats 1000000 in
theorem noteOf_1 (id : Int) (key name : ByteArray) (a : Option Addr) (len cap : Nat) (w : World) :
    Calls Tryz.prog 50 #[.agg #[.int .i64 1, .int .i64 id, .string key, .string name, .slice a len cap]] w fun e w' => e = .returned (.iface 84 (.slice a len cap)) ∧ Below w.heap.size w w' := by
  go_enter Tryz.func50, Tryz.ntmps50
  go_wp2
  go_ret
  exact ⟨rfl, (Below.refl _ _).alloc (Nat.le_refl _) _⟩
set_option maxHeartbeats 1000000 in
theorem noteOf_2 (id : Int) (key name : ByteArray) (a : Option Addr) (len cap : Nat) (w : World) :
    Calls Tryz.prog 50 #[.agg #[.int .i64 2, .int .i64 id, .string key, .string name, .slice a len cap]] w fun e w' => e = .returned (.iface 86 (.string name)) ∧ Below w.heap.size w w' := by
  go_enter Tryz.func50, Tryz.ntmps50
  go_wp2
  go_ret
  exact ⟨rfl, (Below.refl _ _).alloc (Nat.le_refl _) _⟩
set_option maxHeartbeats 1000000 in
theorem noteOf_3 (id : Int) (key name : ByteArray) (a : Option Addr) (len cap : Nat) (w : World) :
    Calls Tryz.prog 50 #[.agg #[.int .i64 3, .int .i64 id, .string key, .string name, .slice a len cap]] w fun e w' => e = .returned (.iface 88 (.agg #[.int .i64 id, .string key, .string name, .slice a len cap])) ∧ Below w.heap.size w w' := by
  go_enter Tryz.func50, Tryz.ntmps50
  go_wp2
  go_ret
  exact ⟨rfl, (Below.refl _ _).alloc (Nat.le_refl _) _⟩
set_option maxHeartbeats 1000000 in
theorem noteOf_4 (id : Int) (key name : ByteArray) (a : Option Addr) (len cap : Nat) (zs : List Int) (w : World) (hr : IsRow .i64 w a len cap zs) :
    Calls Tryz.prog 50 #[.agg #[.int .i64 4, .int .i64 id, .string key, .string name, .slice a len cap]] w fun e w' => e = .returned (.iface 91 (.agg #[.int .i64 1, .int .i64 id, .string ⟨#[]⟩, .int .i64 (zs.getD 0 0)])) ∧ Below w.heap.size w w' := by
  have HF : Hid (∀ o n, Calls Tryz.prog 67 #[.slice a len cap] ((w.alloc o).drewN n) fun e w'' => e = .returned (.int .i64 (zs.getD 0 0)) ∧ w'' = (w.alloc o).drewN n) := fun o n => firstOf a len cap zs _ (hr.below (below_drewN ((Below.refl _ _).alloc (Nat.le_refl _) _) n))
  clear hr
  generalize zs.getD 0 0 = z at HF
  go_enter Tryz.func50, Tryz.ntmps50
  go_wp2
  go_quiet ((go_at_call 67; exact Calls.quiet_of_same (HF.out _ _)))
  go_wp2
  go_ret
  exact ⟨rfl, below_drewN ((Below.refl _ _).alloc (Nat.le_refl _) _) _⟩
set_option maxHeartbeats 1000000 in
theorem noteOf_5 (id : Int) (key name : ByteArray) (a : Option Addr) (len cap : Nat) (zs : List Int) (w : World) (hr : IsRow .i64 w a len cap zs) :
    Calls Tryz.prog 50 #[.agg #[.int .i64 5, .int .i64 id, .string key, .string name, .slice a len cap]] w fun e w' => e = .returned (.iface 91 (.agg #[.int .i64 2, .int .i64 id, .string ⟨#[]⟩, .int .i64 (zs.getD 0 0)])) ∧ Below w.heap.size w w' := by
  have HF : Hid (∀ o n, Calls Tryz.prog 67 #[.slice a len cap] ((w.alloc o).drewN n) fun e w'' => e = .returned (.int .i64 (zs.getD 0 0)) ∧ w'' = (w.alloc o).drewN n) := fun o n => firstOf a len cap zs _ (hr.below (below_drewN ((Below.refl _ _).alloc (Nat.le_refl _) _) n))
  clear hr
  generalize zs.getD 0 0 = z at HF
  go_enter Tryz.func50, Tryz.ntmps50
  go_wp2
  go_quiet ((go_at_call 67; exact Calls.quiet_of_same (HF.out _ _)))
  go_wp2
  go_ret
  exact ⟨rfl, below_drewN ((Below.refl _ _).alloc (Nat.le_refl _) _) _⟩
set_option maxHeartbeats 1000000 in
theorem noteOf_6 (id : Int) (key name : ByteArray) (a : Option Addr) (len cap : Nat) (zs : List Int) (w : World) (hr : IsRow .i64 w a len cap zs) :
    Calls Tryz.prog 50 #[.agg #[.int .i64 6, .int .i64 id, .string key, .string name, .slice a len cap]] w fun e w' => e = .returned (.iface 91 (.agg #[.int .i64 3, .int .i64 id, .string ⟨#[]⟩, .int .i64 0])) ∧ Below w.heap.size w w' := by
  clear hr
  go_enter Tryz.func50, Tryz.ntmps50
  go_wp2
  go_ret
  exact ⟨rfl, (Below.refl _ _).alloc (Nat.le_refl _) _⟩
set_option maxHeartbeats 1000000 in
theorem noteOf_7 (id : Int) (key name : ByteArray) (a : Option Addr) (len cap : Nat) (zs : List Int) (w : World) (hr : IsRow .i64 w a len cap zs) :
    Calls Tryz.prog 50 #[.agg #[.int .i64 7, .int .i64 id, .string key, .string name, .slice a len cap]] w fun e w' => e = .returned (.iface 91 (.agg #[.int .i64 4, .int .i64 0, .string name, .int .i64 (zs.getD 0 0)])) ∧ Below w.heap.size w w' := by
  have HF : Hid (∀ o n, Calls Tryz.prog 67 #[.slice a len cap] ((w.alloc o).drewN n) fun e w'' => e = .returned (.int .i64 (zs.getD 0 0)) ∧ w'' = (w.alloc o).drewN n) := fun o n => firstOf a len cap zs _ (hr.below (below_drewN ((Below.refl _ _).alloc (Nat.le_refl _) _) n))
  clear hr
  generalize zs.getD 0 0 = z at HF
  go_enter Tryz.func50, Tryz.ntmps50
  go_wp2
  go_quiet ((go_at_call 67; exact Calls.quiet_of_same (HF.out _ _)))
  go_wp2
  go_ret
  exact ⟨rfl, below_drewN ((Below.refl _ _).alloc (Nat.le_refl _) _) _⟩
set_option maxHeartbeats 1000000 in
theorem noteOf_8 (id : Int) (key name : ByteArray) (a : Option Addr) (len cap : Nat) (zs : List Int) (w : World) (hr : IsRow .i64 w a len cap zs) :
    Calls Tryz.prog 50 #[.agg #[.int .i64 8, .int .i64 id, .string key, .string name, .slice a len cap]] w fun e w' => e = .returned (.iface 91 (.agg #[.int .i64 5, .int .i64 0, .string ⟨#[]⟩, .int .i64 0])) ∧ Below w.heap.size w w' := by
  clear hr
  go_enter Tryz.func50, Tryz.ntmps50
  go_wp2
  go_ret
  exact ⟨rfl, (Below.refl _ _).alloc (Nat.le_refl _) _⟩
set_option maxHeartbeats 1000000 in
theorem noteOf_9 (id : Int) (key name : ByteArray) (a : Option Addr) (len cap : Nat) (w : World) :
    Calls Tryz.prog 50 #[.agg #[.int .i64 9, .int .i64 id, .string key, .string name, .slice a len cap]] w fun e w' => e = .returned (.iface 94 (.agg #[.int .i64 id, .slice a len cap])) ∧ Below w.heap.size w w' := by
  go_enter Tryz.func50, Tryz.ntmps50
  go_wp2
  go_ret
  exact ⟨rfl, (Below.refl _ _).alloc (Nat.le_refl _) _⟩
set_option maxHeartbeats 1000000 in
theorem noteOf_0 (kind id : Int) (key name : ByteArray) (a : Option Addr) (len cap : Nat) (w : World) (h : kind < 1 ∨ 9 < kind) :
    Calls Tryz.prog 50 #[.agg #[.int .i64 kind, .int .i64 id, .string key, .string name, .slice a len cap]] w fun e w' => e = .returned .nilIface ∧ Below w.heap.size w w' := by
  have h1 : (kind == 1) = false := by simp; omega
  have h2 : (kind == 2) = false := by simp; omega
  have h3 : (kind == 3) = false := by simp; omega
  have h4 : (kind == 4) = false := by simp; omega
  have h5 : (kind == 5) = false := by simp; omega
  have h6 : (kind == 6) = false := by simp; omega
  have h7 : (kind == 7) = false := by simp; omega
  have h8 : (kind == 8) = false := by simp; omega
  have h9 : (kind == 9) = false := by simp; omega
  clear h
  go_enter Tryz.func50, Tryz.ntmps50
  go_wp2
  go_ret
  exact ⟨rfl, (Below.refl _ _).alloc (Nat.le_refl _) _⟩

/-- The entries of notes. -/
theorem startEntry (a : Option Addr) (len cap : Nat) (w : World) :
    Calls Tryz.prog 137 #[.slice a len cap] w fun e w' => e = .returned (.agg #[.int .i64 1, .int .i64 0, .string ⟨#[]⟩, .string ⟨#[]⟩, .slice a len cap]) ∧ Below w.heap.size w w' := by
  go_enter Tryz.func137, Tryz.ntmps137
  go_wp2
  exact bodyPost_ret (v := .agg #[.int .i64 1, .int .i64 0, .string ⟨#[]⟩, .string ⟨#[]⟩, .slice a len cap]) (by simp [results, Tryz.results137, go_sem]) rfl ⟨rfl, (Below.refl _ _).alloc (Nat.le_refl _) _⟩
theorem markEntry (name : ByteArray) (w : World) :
    Calls Tryz.prog 138 #[.string name] w fun e w' => e = .returned (.agg #[.int .i64 2, .int .i64 0, .string ⟨#[]⟩, .string name, .slice none 0 0]) ∧ Below w.heap.size w w' := by
  go_enter Tryz.func138, Tryz.ntmps138
  go_wp2
  exact bodyPost_ret (v := .agg #[.int .i64 2, .int .i64 0, .string ⟨#[]⟩, .string name, .slice none 0 0]) (by simp [results, Tryz.results138, go_sem]) rfl ⟨rfl, (Below.refl _ _).alloc (Nat.le_refl _) _⟩
theorem askEntry (id : Int) (key name : ByteArray) (a : Option Addr) (len cap : Nat) (w : World) :
    Calls Tryz.prog 139 #[.agg #[.int .i64 id, .string key, .string name, .slice a len cap]] w fun e w' => e = .returned (.agg #[.int .i64 3, .int .i64 id, .string key, .string name, .slice a len cap]) ∧ Below w.heap.size w w' := by
  go_enter Tryz.func139, Tryz.ntmps139
  go_wp2
  exact bodyPost_ret (v := .agg #[.int .i64 3, .int .i64 id, .string key, .string name, .slice a len cap]) (by simp [results, Tryz.results139, go_sem]) rfl ⟨rfl, ((Below.refl _ _).alloc (Nat.le_refl _) _).alloc (by simp) _⟩
theorem endEntry (id : Int) (a : Option Addr) (len cap : Nat) (w : World) :
    Calls Tryz.prog 141 #[.agg #[.int .i64 id, .slice a len cap]] w fun e w' => e = .returned (.agg #[.int .i64 9, .int .i64 id, .string ⟨#[]⟩, .string ⟨#[]⟩, .slice a len cap]) ∧ Below w.heap.size w w' := by
  go_enter Tryz.func141, Tryz.ntmps141
  go_wp2
  exact bodyPost_ret (v := .agg #[.int .i64 9, .int .i64 id, .string ⟨#[]⟩, .string ⟨#[]⟩, .slice a len cap]) (by simp [results, Tryz.results141, go_sem]) rfl ⟨rfl, ((Below.refl _ _).alloc (Nat.le_refl _) _).alloc (by simp) _⟩
theorem hapEntry_1 (id num : Int) (name : ByteArray) (w : World) :
    Calls Tryz.prog 140 #[.agg #[.int .i64 1, .int .i64 id, .string name, .int .i64 num]] w fun e w' => ∃ b, e = .returned (.agg #[.int .i64 4, .int .i64 id, .string ⟨#[]⟩, .string ⟨#[]⟩, .slice (some ⟨b, 0, none⟩) 1 1]) ∧ b < w'.heap.size ∧ w'.cell? ⟨b, 0, none⟩ = some (.int .i64 num) ∧ Below w.heap.size w w' := by
  go_enter Tryz.func140, Tryz.ntmps140
  go_wp2
  exact bodyPost_ret (v := .agg #[.int .i64 4, .int .i64 id, .string ⟨#[]⟩, .string ⟨#[]⟩, .slice (some ⟨w.heap.size + 2, 0, none⟩) 1 1]) (by simp [results, Tryz.results140, go_sem]) rfl ⟨w.heap.size + 2, rfl, by simp, by simp [go_sem], (((Below.refl _ _).alloc (Nat.le_refl _) _).alloc (by simp) _).alloc (by simp; omega) _⟩
theorem hapEntry_2 (id num : Int) (name : ByteArray) (w : World) :
    Calls Tryz.prog 140 #[.agg #[.int .i64 2, .int .i64 id, .string name, .int .i64 num]] w fun e w' => ∃ b, e = .returned (.agg #[.int .i64 5, .int .i64 id, .string ⟨#[]⟩, .string ⟨#[]⟩, .slice (some ⟨b, 0, none⟩) 1 1]) ∧ b < w'.heap.size ∧ w'.cell? ⟨b, 0, none⟩ = some (.int .i64 num) ∧ Below w.heap.size w w' := by
  go_enter Tryz.func140, Tryz.ntmps140
  go_wp2
  exact bodyPost_ret (v := .agg #[.int .i64 5, .int .i64 id, .string ⟨#[]⟩, .string ⟨#[]⟩, .slice (some ⟨w.heap.size + 2, 0, none⟩) 1 1]) (by simp [results, Tryz.results140, go_sem]) rfl ⟨w.heap.size + 2, rfl, by simp, by simp [go_sem], (((Below.refl _ _).alloc (Nat.le_refl _) _).alloc (by simp) _).alloc (by simp; omega) _⟩
theorem hapEntry_3 (id num : Int) (name : ByteArray) (w : World) :
    Calls Tryz.prog 140 #[.agg #[.int .i64 3, .int .i64 id, .string name, .int .i64 num]] w fun e w' => e = .returned (.agg #[.int .i64 6, .int .i64 id, .string ⟨#[]⟩, .string ⟨#[]⟩, .slice none 0 0]) ∧ Below w.heap.size w w' := by
  go_enter Tryz.func140, Tryz.ntmps140
  go_wp2
  exact bodyPost_ret (v := .agg #[.int .i64 6, .int .i64 id, .string ⟨#[]⟩, .string ⟨#[]⟩, .slice none 0 0]) (by simp [results, Tryz.results140, go_sem]) rfl ⟨rfl, ((Below.refl _ _).alloc (Nat.le_refl _) _).alloc (by simp) _⟩
theorem hapEntry_4 (id num : Int) (name : ByteArray) (w : World) :
    Calls Tryz.prog 140 #[.agg #[.int .i64 4, .int .i64 id, .string name, .int .i64 num]] w fun e w' => ∃ b, e = .returned (.agg #[.int .i64 7, .int .i64 0, .string ⟨#[]⟩, .string name, .slice (some ⟨b, 0, none⟩) 1 1]) ∧ b < w'.heap.size ∧ w'.cell? ⟨b, 0, none⟩ = some (.int .i64 num) ∧ Below w.heap.size w w' := by
  go_enter Tryz.func140, Tryz.ntmps140
  go_wp2
  exact bodyPost_ret (v := .agg #[.int .i64 7, .int .i64 0, .string ⟨#[]⟩, .string name, .slice (some ⟨w.heap.size + 2, 0, none⟩) 1 1]) (by simp [results, Tryz.results140, go_sem]) rfl ⟨w.heap.size + 2, rfl, by simp, by simp [go_sem], (((Below.refl _ _).alloc (Nat.le_refl _) _).alloc (by simp) _).alloc (by simp; omega) _⟩
theorem hapEntry_5 (id num : Int) (name : ByteArray) (w : World) :
    Calls Tryz.prog 140 #[.agg #[.int .i64 5, .int .i64 id, .string name, .int .i64 num]] w fun e w' => e = .returned (.agg #[.int .i64 8, .int .i64 0, .string ⟨#[]⟩, .string ⟨#[]⟩, .slice none 0 0]) ∧ Below w.heap.size w w' := by
  go_enter Tryz.func140, Tryz.ntmps140
  go_wp2
  exact bodyPost_ret (v := .agg #[.int .i64 8, .int .i64 0, .string ⟨#[]⟩, .string ⟨#[]⟩, .slice none 0 0]) (by simp [results, Tryz.results140, go_sem]) rfl ⟨rfl, ((Below.refl _ _).alloc (Nat.le_refl _) _).alloc (by simp) _⟩
end Go.Proofs.YtbngjpnbjknliaaGreatDoor

namespace Go.Proofs.YtbngjpnbjknliaaGreatDoor
set_option linter.unusedVariables false
set_option linter.unusedSimpArgs false
open Go.RowKit

/-- The loop's word: the bytes up to p are letters or digits, the first a letter. -/
def nmTo (s : ByteArray) (p : Nat) : Prop := (∀ j (hj : j < s.size), j < p → wordc s[j] = true) ∧ (∀ h : 0 < s.size, 0 < p → isLow s[0] = true)
theorem nm_none {s : ByteArray} {p : Nat} (hp : p < s.size) (h : wordc s[p] = false) : nameOk s.data.toList = false := nameOk_bad_at _ p (by simpa using hp) (by rw [bget s p hp]; exact h)

set_option maxRecDepth 100000 in
set_option maxHeartbeats 1000000 in
theorem isName (s : ByteArray) (w : World) (hs : s.size ≤ maxLen) :
    Calls Tryz.prog 69 #[.string s] w fun e w' => e = .returned (.bool (nameOk s.data.toList)) ∧ Below w.heap.size w w' := by
  unfold maxLen at hs
  by_cases hl : 1 ≤ s.size ∧ s.size ≤ 8
  · obtain ⟨hl1, hl2⟩ := hl
    go_enter Tryz.func69, Tryz.ntmps69
    go_wp2
    go_loopw [] (fun wr => ∃ p : Nat, p ≤ s.size ∧ nmTo s p ∧ wr = w.iter s p) (fun wr => s.size - wr.iterPos w.heap.size)
    case atStart => exact ⟨0, Nat.zero_le _, ⟨fun j _ h => by omega, fun _ h => by omega⟩, rfl⟩
    case round =>
      obtain ⟨p, hp, hN, hwr⟩ := hrel
      have HN : Hid (nmTo s p) := hN
      clear hN
      subst hwr
      by_cases hlt : p < s.size
      · have hp0 : ((p : Int) == 0) = true ∨ ((p : Int) == 0) = false := by cases ((p : Int) == 0) <;> simp
        by_cases ha : s[p].toNat < 128
        · have hnx := fun ty => run_next_ascii (P := Tryz.prog) w s p ty hlt ha
          by_cases hlo : 97 ≤ s[p].toNat ∧ s[p].toNat ≤ 122
          · have HR : Hid (nmTo s (p + 1)) := by
              have hw : wordc s[p] = true := wordc_low (by omega) (by omega)
              have hi : isLow s[p] = true := by simp [isLow, hlo.1, hlo.2]
              refine ⟨nm_step hlt HN.out.1 hw, fun h _ => ?_⟩
              by_cases e : p = 0
              · subst e; exact hi
              · exact HN.out.2 h (by omega)
            have d1 : decide ((97 : Int) ≤ (s[p].toNat : Int)) = true := decide_eq_true (by omega)
            have d2 : decide ((s[p].toNat : Int) ≤ (122 : Int)) = true := decide_eq_true (by omega)
            have d3 : decide ((48 : Int) ≤ (s[p].toNat : Int)) = true := decide_eq_true (by omega)
            have d4 : decide ((s[p].toNat : Int) ≤ (57 : Int)) = false := decide_eq_false (by omega)
            clear hlo ha
            go_wp2_with fail
            go_roundw
            case rel => exact ⟨p + 1, by omega, HR.out, rfl⟩
            case measure => simp; omega
          · by_cases hdi : 48 ≤ s[p].toNat ∧ s[p].toNat ≤ 57
            · rcases hp0 with hp0 | hp0
              · have HF : Hid (nameOk s.data.toList = false) := by
                  have e : p = 0 := by have := beq_iff_eq.1 hp0; omega
                  subst e
                  refine nameOk_bad_head _ ?_
                  rw [headLow_at _ (by simpa using hlt), bget s 0 hlt]
                  simp [isLow]; omega
                have d1 : decide ((97 : Int) ≤ (s[p].toNat : Int)) = false := decide_eq_false (by omega)
                have d3 : decide ((48 : Int) ≤ (s[p].toNat : Int)) = true := decide_eq_true (by omega)
                have d4 : decide ((s[p].toNat : Int) ≤ (57 : Int)) = true := decide_eq_true (by omega)
                clear hlo ha hdi
                go_wp2_with fail
                go_ret
                exact ⟨ret_bool HF.out.symm, (Below.refl _ _).alloc (Nat.le_refl _) _⟩
              · have HR : Hid (nmTo s (p + 1)) := by
                  have hw : wordc s[p] = true := wordc_dig (by omega) (by omega)
                  refine ⟨nm_step hlt HN.out.1 hw, fun h _ => HN.out.2 h ?_⟩
                  have := beq_eq_false_iff_ne.1 hp0; omega
                have d1 : decide ((97 : Int) ≤ (s[p].toNat : Int)) = false := decide_eq_false (by omega)
                have d3 : decide ((48 : Int) ≤ (s[p].toNat : Int)) = true := decide_eq_true (by omega)
                have d4 : decide ((s[p].toNat : Int) ≤ (57 : Int)) = true := decide_eq_true (by omega)
                clear hlo ha hdi
                go_wp2_with fail
                go_roundw
                case rel => exact ⟨p + 1, by omega, HR.out, rfl⟩
                case measure => simp; omega
            · have HF : Hid (nameOk s.data.toList = false) := nm_none hlt (wordc_no (by omega) (by omega))
              by_cases h97 : 97 ≤ s[p].toNat
              · have d1 : decide ((97 : Int) ≤ (s[p].toNat : Int)) = true := decide_eq_true (by omega)
                have d2 : decide ((s[p].toNat : Int) ≤ (122 : Int)) = false := decide_eq_false (by omega)
                have d3 : decide ((48 : Int) ≤ (s[p].toNat : Int)) = true := decide_eq_true (by omega)
                have d4 : decide ((s[p].toNat : Int) ≤ (57 : Int)) = false := decide_eq_false (by omega)
                clear hlo ha hdi h97
                rcases hp0 with hp0 | hp0
                all_goals
                  go_wp2_with fail
                  go_ret
                  exact ⟨ret_bool HF.out.symm, (Below.refl _ _).alloc (Nat.le_refl _) _⟩
              · by_cases h48 : 48 ≤ s[p].toNat
                · have d1 : decide ((97 : Int) ≤ (s[p].toNat : Int)) = false := decide_eq_false (by omega)
                  have d3 : decide ((48 : Int) ≤ (s[p].toNat : Int)) = true := decide_eq_true (by omega)
                  have d4 : decide ((s[p].toNat : Int) ≤ (57 : Int)) = false := decide_eq_false (by omega)
                  clear hlo ha hdi h97 h48
                  rcases hp0 with hp0 | hp0
                  all_goals
                    go_wp2_with fail
                    go_ret
                    exact ⟨ret_bool HF.out.symm, (Below.refl _ _).alloc (Nat.le_refl _) _⟩
                · have d1 : decide ((97 : Int) ≤ (s[p].toNat : Int)) = false := decide_eq_false (by omega)
                  have d3 : decide ((48 : Int) ≤ (s[p].toNat : Int)) = false := decide_eq_false (by omega)
                  clear hlo ha hdi h97 h48
                  rcases hp0 with hp0 | hp0
                  all_goals
                    go_wp2_with fail
                    go_ret
                    exact ⟨ret_bool HF.out.symm, (Below.refl _ _).alloc (Nat.le_refl _) _⟩
        · have hhi := decode_high s p hlt (by omega)
          have HF : Hid (nameOk s.data.toList = false) := nm_none hlt (wordc_no (by omega) (by omega))
          have hnx := fun ty => run_next_any (P := Tryz.prog) w s p ty hlt
          generalize (Utf8.decode s p).1 = r at hhi hnx
          generalize (Utf8.decode s p).2 = dd at hhi hnx
          obtain ⟨hhi, _⟩ := hhi
          have d1 : decide ((97 : Int) ≤ (r : Int)) = true := decide_eq_true (by omega)
          have d2 : decide ((r : Int) ≤ (122 : Int)) = false := decide_eq_false (by omega)
          have d3 : decide ((48 : Int) ≤ (r : Int)) = true := decide_eq_true (by omega)
          have d4 : decide ((r : Int) ≤ (57 : Int)) = false := decide_eq_false (by omega)
          rcases hp0 with hp0 | hp0
          all_goals
            go_wp2_with fail
            go_ret
            exact ⟨ret_bool HF.out.symm, (Below.refl _ _).alloc (Nat.le_refl _) _⟩
      · have hnx := fun ty => run_next_end (P := Tryz.prog) w s p ty hlt
        have HF : Hid (nameOk s.data.toList = true) := nameOk_good _ (by simpa using hl1) (by simpa using hl2) (by rw [headLow_at _ (by simp; omega), bget s 0 (by omega)]; exact HN.out.2 (by omega) (by omega)) (fun i hi => by rw [bget s i (by simpa using hi)]; exact HN.out.1 i _ (by simp at hi; omega))
        go_wp2
        go_ret
        exact ⟨ret_bool HF.out.symm, (Below.refl _ _).alloc (Nat.le_refl _) _⟩
  · have HF : Hid (nameOk s.data.toList = false) := nameOk_bad_len _ (by simpa using hl)
    have hl' : s.size = 0 ∨ 8 < s.size := by omega
    clear hl
    rcases hl' with h | h
    all_goals
      go_enter Tryz.func69, Tryz.ntmps69
      go_wp2
      go_ret
      exact ⟨ret_bool HF.out.symm, Below.refl _ _⟩
end Go.Proofs.YtbngjpnbjknliaaGreatDoor
