/- The model's decimals. -/
import Derived.Test.YtbngjpnbjknliaaGreatDoorJ1
import Derived.Lib.ItoaNum
import Derived.Lib.ItoaLen
import Derived.Laws.IdiomStrings
namespace Go.Proofs.YtbngjpnbjknliaaGreatDoor
set_option linter.unusedVariables false
set_option linter.unusedSimpArgs false
open Go.RowKit Go

def emp (s : ByteArray) : Bool := decide (s.toList = [])
/-- What an entry of a kind has. -/
def entBody (e : Ent) : Bool :=
  if e.kind = 1 then decide (e.id = 0) && emp e.name && decide (e.nums.length ≤ 3)
  else if e.kind = 2 then decide (e.id = 0) && nameOk e.name.data.toList && decide (e.nums.length = 0)
  else if e.kind = 3 then decide (0 < e.id) && keyOk e.key.data.toList && (emp e.name || nameOk e.name.data.toList) && decide (e.nums.length ≤ 3)
  else if e.kind = 4 ∨ e.kind = 5 then decide (0 < e.id) && emp e.name && decide (e.nums.length = 1)
  else if e.kind = 6 then decide (0 < e.id) && emp e.name && decide (e.nums.length = 0)
  else if e.kind = 7 then decide (e.id = 0) && nameOk e.name.data.toList && decide (e.nums.length = 1)
  else if e.kind = 8 then decide (e.id = 0) && emp e.name && decide (e.nums.length = 0)
  else if e.kind = 9 then decide (1 ≤ e.id ∧ e.id ≤ 4) && emp e.name && decide (1 ≤ e.nums.length ∧ e.nums.length ≤ 4)
  else false
def entOk (e : Ent) : Bool := numsIn e.nums && decide (0 ≤ e.id ∧ e.id ≤ 9999) && (emp e.key || decide (e.kind = 3)) && entBody e

set_option maxRecDepth 8000 in
set_option maxHeartbeats 4000000 in
theorem l21EntryOk_f1 (kind id : Int) (key name : ByteArray) (nums : List Int) (a : Option Addr) (len cap : Nat) (w : World) (hr : IsRow .i64 w a len cap nums) (hk : key.size ≤ maxLen) (hn : name.size ≤ maxLen) (h1 : numsIn nums = false) :
    Calls Tryz.prog 21 #[.agg #[.int .i64 kind, .int .i64 id, .string key, .string name, .slice a len cap]] w fun x w' => x = .returned (.bool (entOk ⟨kind, id, key, name, nums⟩)) ∧ Below w.heap.size w w' := by
  obtain ⟨hz, hm⟩ := hr.len
  have HR : Hid (IsRow .i64 w a len cap nums) := hr
  clear hr
  have HNS : Hid (∀ w, IsRow .i64 w a len cap nums → Calls Tryz.prog 40 #[.slice a len cap] w fun x w' => x = .returned (.bool (numsIn nums)) ∧ w' = w) := fun w h => l11Nums a len cap nums w h
  have HI : Hid (∀ n lo hi w, Calls Tryz.prog 39 #[.int .i64 n, .int .i64 lo, .int .i64 hi] w fun x w' => x = .returned (.bool (decide (lo ≤ n ∧ n ≤ hi))) ∧ w' = w) := l1In_d
  have HN : Hid (∀ w, Calls Tryz.prog 41 #[.string name] w fun x w' => x = .returned (.bool (nameOk name.data.toList)) ∧ w' = w) := fun w => l1NameOk name w hn
  have HK : Hid (∀ w, Calls Tryz.prog 42 #[.string key] w fun x w' => x = .returned (.bool (keyOk key.data.toList)) ∧ w' = w) := fun w => l11Key key w hk
  unfold maxLen at hk hn hm
  rw [h1] at HNS
  go_enter Tryz.func21, Tryz.ntmps21
  go_wp2_with first
    | (go_at_call 40; refine (HNS.out _ (by exact IsRow.alloc HR.out _)).mono ?_; rintro x w' ⟨rfl, rfl⟩)
    | (go_at_call 39; refine (HI.out _ _ _ _).mono ?_; rintro x w' ⟨rfl, rfl⟩)
    | (go_at_call 41; refine (HN.out _).mono ?_; rintro x w' ⟨rfl, rfl⟩)
    | (go_at_call 42; refine (HK.out _).mono ?_; rintro x w' ⟨rfl, rfl⟩)
  all_goals
    go_ret
    clear HNS HI HN HK HR
    refine ⟨ret_bool ?_, (Below.refl _ _).alloc (Nat.le_refl _) _⟩
    simp_all [entOk, entBody, emp]
    try (rw [Bool.eq_iff_iff]; simp)
    try omega

set_option maxRecDepth 8000 in
set_option maxHeartbeats 4000000 in
theorem l21EntryOk_f2 (kind id : Int) (key name : ByteArray) (nums : List Int) (a : Option Addr) (len cap : Nat) (w : World) (hr : IsRow .i64 w a len cap nums) (hk : key.size ≤ maxLen) (hn : name.size ≤ maxLen) (h1 : numsIn nums = true) (h2 : decide (0 ≤ id ∧ id ≤ 9999) = false) :
    Calls Tryz.prog 21 #[.agg #[.int .i64 kind, .int .i64 id, .string key, .string name, .slice a len cap]] w fun x w' => x = .returned (.bool (entOk ⟨kind, id, key, name, nums⟩)) ∧ Below w.heap.size w w' := by
  obtain ⟨hz, hm⟩ := hr.len
  have HR : Hid (IsRow .i64 w a len cap nums) := hr
  clear hr
  have HNS : Hid (∀ w, IsRow .i64 w a len cap nums → Calls Tryz.prog 40 #[.slice a len cap] w fun x w' => x = .returned (.bool (numsIn nums)) ∧ w' = w) := fun w h => l11Nums a len cap nums w h
  have HI : Hid (∀ n lo hi w, Calls Tryz.prog 39 #[.int .i64 n, .int .i64 lo, .int .i64 hi] w fun x w' => x = .returned (.bool (decide (lo ≤ n ∧ n ≤ hi))) ∧ w' = w) := l1In_d
  have HN : Hid (∀ w, Calls Tryz.prog 41 #[.string name] w fun x w' => x = .returned (.bool (nameOk name.data.toList)) ∧ w' = w) := fun w => l1NameOk name w hn
  have HK : Hid (∀ w, Calls Tryz.prog 42 #[.string key] w fun x w' => x = .returned (.bool (keyOk key.data.toList)) ∧ w' = w) := fun w => l11Key key w hk
  unfold maxLen at hk hn hm
  rw [h1] at HNS
  go_enter Tryz.func21, Tryz.ntmps21
  go_wp2_with first
    | (go_at_call 40; refine (HNS.out _ (by exact IsRow.alloc HR.out _)).mono ?_; rintro x w' ⟨rfl, rfl⟩)
    | (go_at_call 39; refine (HI.out _ _ _ _).mono ?_; rintro x w' ⟨rfl, rfl⟩)
    | (go_at_call 41; refine (HN.out _).mono ?_; rintro x w' ⟨rfl, rfl⟩)
    | (go_at_call 42; refine (HK.out _).mono ?_; rintro x w' ⟨rfl, rfl⟩)
  all_goals
    go_ret
    clear HNS HI HN HK HR
    refine ⟨ret_bool ?_, (Below.refl _ _).alloc (Nat.le_refl _) _⟩
    simp_all [entOk, entBody, emp]
    try (rw [Bool.eq_iff_iff]; simp)
    try omega

set_option maxRecDepth 8000 in
set_option maxHeartbeats 4000000 in
theorem l21EntryOk_f3 (kind id : Int) (key name : ByteArray) (nums : List Int) (a : Option Addr) (len cap : Nat) (w : World) (hr : IsRow .i64 w a len cap nums) (hk : key.size ≤ maxLen) (hn : name.size ≤ maxLen) (h1 : numsIn nums = true) (h2 : decide (0 ≤ id ∧ id ≤ 9999) = true) (h3 : key.toList ≠ []) (h4 : kind ≠ 3) :
    Calls Tryz.prog 21 #[.agg #[.int .i64 kind, .int .i64 id, .string key, .string name, .slice a len cap]] w fun x w' => x = .returned (.bool (entOk ⟨kind, id, key, name, nums⟩)) ∧ Below w.heap.size w w' := by
  obtain ⟨hz, hm⟩ := hr.len
  have HR : Hid (IsRow .i64 w a len cap nums) := hr
  clear hr
  have HNS : Hid (∀ w, IsRow .i64 w a len cap nums → Calls Tryz.prog 40 #[.slice a len cap] w fun x w' => x = .returned (.bool (numsIn nums)) ∧ w' = w) := fun w h => l11Nums a len cap nums w h
  have HI : Hid (∀ n lo hi w, Calls Tryz.prog 39 #[.int .i64 n, .int .i64 lo, .int .i64 hi] w fun x w' => x = .returned (.bool (decide (lo ≤ n ∧ n ≤ hi))) ∧ w' = w) := l1In_d
  have HN : Hid (∀ w, Calls Tryz.prog 41 #[.string name] w fun x w' => x = .returned (.bool (nameOk name.data.toList)) ∧ w' = w) := fun w => l1NameOk name w hn
  have HK : Hid (∀ w, Calls Tryz.prog 42 #[.string key] w fun x w' => x = .returned (.bool (keyOk key.data.toList)) ∧ w' = w) := fun w => l11Key key w hk
  unfold maxLen at hk hn hm
  rw [h1] at HNS
  go_enter Tryz.func21, Tryz.ntmps21
  go_wp2_with first
    | (go_at_call 40; refine (HNS.out _ (by exact IsRow.alloc HR.out _)).mono ?_; rintro x w' ⟨rfl, rfl⟩)
    | (go_at_call 39; refine (HI.out _ _ _ _).mono ?_; rintro x w' ⟨rfl, rfl⟩)
    | (go_at_call 41; refine (HN.out _).mono ?_; rintro x w' ⟨rfl, rfl⟩)
    | (go_at_call 42; refine (HK.out _).mono ?_; rintro x w' ⟨rfl, rfl⟩)
  all_goals
    go_ret
    clear HNS HI HN HK HR
    refine ⟨ret_bool ?_, (Below.refl _ _).alloc (Nat.le_refl _) _⟩
    simp_all [entOk, entBody, emp]
    try (rw [Bool.eq_iff_iff]; simp)
    try omega

set_option maxRecDepth 8000 in
set_option maxHeartbeats 4000000 in
theorem l21EntryOk_1 (kind id : Int) (key name : ByteArray) (nums : List Int) (a : Option Addr) (len cap : Nat) (w : World) (hr : IsRow .i64 w a len cap nums) (hk : key.size ≤ maxLen) (hn : name.size ≤ maxLen) (h1 : numsIn nums = true) (h2 : decide (0 ≤ id ∧ id ≤ 9999) = true) (h3 : key.toList = []) (h4 : kind = 1) :
    Calls Tryz.prog 21 #[.agg #[.int .i64 kind, .int .i64 id, .string key, .string name, .slice a len cap]] w fun x w' => x = .returned (.bool (entOk ⟨kind, id, key, name, nums⟩)) ∧ Below w.heap.size w w' := by
  obtain ⟨hz, hm⟩ := hr.len
  have HR : Hid (IsRow .i64 w a len cap nums) := hr
  clear hr
  have HNS : Hid (∀ w, IsRow .i64 w a len cap nums → Calls Tryz.prog 40 #[.slice a len cap] w fun x w' => x = .returned (.bool (numsIn nums)) ∧ w' = w) := fun w h => l11Nums a len cap nums w h
  have HI : Hid (∀ n lo hi w, Calls Tryz.prog 39 #[.int .i64 n, .int .i64 lo, .int .i64 hi] w fun x w' => x = .returned (.bool (decide (lo ≤ n ∧ n ≤ hi))) ∧ w' = w) := l1In_d
  have HN : Hid (∀ w, Calls Tryz.prog 41 #[.string name] w fun x w' => x = .returned (.bool (nameOk name.data.toList)) ∧ w' = w) := fun w => l1NameOk name w hn
  have HK : Hid (∀ w, Calls Tryz.prog 42 #[.string key] w fun x w' => x = .returned (.bool (keyOk key.data.toList)) ∧ w' = w) := fun w => l11Key key w hk
  unfold maxLen at hk hn hm
  rw [h1] at HNS
  subst h4
  go_enter Tryz.func21, Tryz.ntmps21
  go_wp2_with first
    | (go_at_call 40; refine (HNS.out _ (by exact IsRow.alloc HR.out _)).mono ?_; rintro x w' ⟨rfl, rfl⟩)
    | (go_at_call 39; refine (HI.out _ _ _ _).mono ?_; rintro x w' ⟨rfl, rfl⟩)
    | (go_at_call 41; refine (HN.out _).mono ?_; rintro x w' ⟨rfl, rfl⟩)
    | (go_at_call 42; refine (HK.out _).mono ?_; rintro x w' ⟨rfl, rfl⟩)
  all_goals
    go_ret
    clear HNS HI HN HK HR
    refine ⟨ret_bool ?_, (Below.refl _ _).alloc (Nat.le_refl _) _⟩
    simp_all [entOk, entBody, emp]
    try (rw [Bool.eq_iff_iff]; simp)
    try omega

set_option maxRecDepth 8000 in
set_option maxHeartbeats 4000000 in
theorem l21EntryOk_2 (kind id : Int) (key name : ByteArray) (nums : List Int) (a : Option Addr) (len cap : Nat) (w : World) (hr : IsRow .i64 w a len cap nums) (hk : key.size ≤ maxLen) (hn : name.size ≤ maxLen) (h1 : numsIn nums = true) (h2 : decide (0 ≤ id ∧ id ≤ 9999) = true) (h3 : key.toList = []) (h4 : kind = 2) :
    Calls Tryz.prog 21 #[.agg #[.int .i64 kind, .int .i64 id, .string key, .string name, .slice a len cap]] w fun x w' => x = .returned (.bool (entOk ⟨kind, id, key, name, nums⟩)) ∧ Below w.heap.size w w' := by
  obtain ⟨hz, hm⟩ := hr.len
  have HR : Hid (IsRow .i64 w a len cap nums) := hr
  clear hr
  have HNS : Hid (∀ w, IsRow .i64 w a len cap nums → Calls Tryz.prog 40 #[.slice a len cap] w fun x w' => x = .returned (.bool (numsIn nums)) ∧ w' = w) := fun w h => l11Nums a len cap nums w h
  have HI : Hid (∀ n lo hi w, Calls Tryz.prog 39 #[.int .i64 n, .int .i64 lo, .int .i64 hi] w fun x w' => x = .returned (.bool (decide (lo ≤ n ∧ n ≤ hi))) ∧ w' = w) := l1In_d
  have HN : Hid (∀ w, Calls Tryz.prog 41 #[.string name] w fun x w' => x = .returned (.bool (nameOk name.data.toList)) ∧ w' = w) := fun w => l1NameOk name w hn
  have HK : Hid (∀ w, Calls Tryz.prog 42 #[.string key] w fun x w' => x = .returned (.bool (keyOk key.data.toList)) ∧ w' = w) := fun w => l11Key key w hk
  unfold maxLen at hk hn hm
  rw [h1] at HNS
  subst h4
  go_enter Tryz.func21, Tryz.ntmps21
  go_wp2_with first
    | (go_at_call 40; refine (HNS.out _ (by exact IsRow.alloc HR.out _)).mono ?_; rintro x w' ⟨rfl, rfl⟩)
    | (go_at_call 39; refine (HI.out _ _ _ _).mono ?_; rintro x w' ⟨rfl, rfl⟩)
    | (go_at_call 41; refine (HN.out _).mono ?_; rintro x w' ⟨rfl, rfl⟩)
    | (go_at_call 42; refine (HK.out _).mono ?_; rintro x w' ⟨rfl, rfl⟩)
  all_goals
    go_ret
    clear HNS HI HN HK HR
    refine ⟨ret_bool ?_, (Below.refl _ _).alloc (Nat.le_refl _) _⟩
    simp_all [entOk, entBody, emp]
    try (rw [Bool.eq_iff_iff]; simp)
    try omega

set_option maxRecDepth 8000 in
set_option maxHeartbeats 4000000 in
theorem l21EntryOk_4 (kind id : Int) (key name : ByteArray) (nums : List Int) (a : Option Addr) (len cap : Nat) (w : World) (hr : IsRow .i64 w a len cap nums) (hk : key.size ≤ maxLen) (hn : name.size ≤ maxLen) (h1 : numsIn nums = true) (h2 : decide (0 ≤ id ∧ id ≤ 9999) = true) (h3 : key.toList = []) (h4 : kind = 4) :
    Calls Tryz.prog 21 #[.agg #[.int .i64 kind, .int .i64 id, .string key, .string name, .slice a len cap]] w fun x w' => x = .returned (.bool (entOk ⟨kind, id, key, name, nums⟩)) ∧ Below w.heap.size w w' := by
  obtain ⟨hz, hm⟩ := hr.len
  have HR : Hid (IsRow .i64 w a len cap nums) := hr
  clear hr
  have HNS : Hid (∀ w, IsRow .i64 w a len cap nums → Calls Tryz.prog 40 #[.slice a len cap] w fun x w' => x = .returned (.bool (numsIn nums)) ∧ w' = w) := fun w h => l11Nums a len cap nums w h
  have HI : Hid (∀ n lo hi w, Calls Tryz.prog 39 #[.int .i64 n, .int .i64 lo, .int .i64 hi] w fun x w' => x = .returned (.bool (decide (lo ≤ n ∧ n ≤ hi))) ∧ w' = w) := l1In_d
  have HN : Hid (∀ w, Calls Tryz.prog 41 #[.string name] w fun x w' => x = .returned (.bool (nameOk name.data.toList)) ∧ w' = w) := fun w => l1NameOk name w hn
  have HK : Hid (∀ w, Calls Tryz.prog 42 #[.string key] w fun x w' => x = .returned (.bool (keyOk key.data.toList)) ∧ w' = w) := fun w => l11Key key w hk
  unfold maxLen at hk hn hm
  rw [h1] at HNS
  subst h4
  go_enter Tryz.func21, Tryz.ntmps21
  go_wp2_with first
    | (go_at_call 40; refine (HNS.out _ (by exact IsRow.alloc HR.out _)).mono ?_; rintro x w' ⟨rfl, rfl⟩)
    | (go_at_call 39; refine (HI.out _ _ _ _).mono ?_; rintro x w' ⟨rfl, rfl⟩)
    | (go_at_call 41; refine (HN.out _).mono ?_; rintro x w' ⟨rfl, rfl⟩)
    | (go_at_call 42; refine (HK.out _).mono ?_; rintro x w' ⟨rfl, rfl⟩)
  all_goals
    go_ret
    clear HNS HI HN HK HR
    refine ⟨ret_bool ?_, (Below.refl _ _).alloc (Nat.le_refl _) _⟩
    simp_all [entOk, entBody, emp]
    try (rw [Bool.eq_iff_iff]; simp)
    try omega

set_option maxRecDepth 8000 in
set_option maxHeartbeats 4000000 in
theorem l21EntryOk_5 (kind id : Int) (key name : ByteArray) (nums : List Int) (a : Option Addr) (len cap : Nat) (w : World) (hr : IsRow .i64 w a len cap nums) (hk : key.size ≤ maxLen) (hn : name.size ≤ maxLen) (h1 : numsIn nums = true) (h2 : decide (0 ≤ id ∧ id ≤ 9999) = true) (h3 : key.toList = []) (h4 : kind = 5) :
    Calls Tryz.prog 21 #[.agg #[.int .i64 kind, .int .i64 id, .string key, .string name, .slice a len cap]] w fun x w' => x = .returned (.bool (entOk ⟨kind, id, key, name, nums⟩)) ∧ Below w.heap.size w w' := by
  obtain ⟨hz, hm⟩ := hr.len
  have HR : Hid (IsRow .i64 w a len cap nums) := hr
  clear hr
  have HNS : Hid (∀ w, IsRow .i64 w a len cap nums → Calls Tryz.prog 40 #[.slice a len cap] w fun x w' => x = .returned (.bool (numsIn nums)) ∧ w' = w) := fun w h => l11Nums a len cap nums w h
  have HI : Hid (∀ n lo hi w, Calls Tryz.prog 39 #[.int .i64 n, .int .i64 lo, .int .i64 hi] w fun x w' => x = .returned (.bool (decide (lo ≤ n ∧ n ≤ hi))) ∧ w' = w) := l1In_d
  have HN : Hid (∀ w, Calls Tryz.prog 41 #[.string name] w fun x w' => x = .returned (.bool (nameOk name.data.toList)) ∧ w' = w) := fun w => l1NameOk name w hn
  have HK : Hid (∀ w, Calls Tryz.prog 42 #[.string key] w fun x w' => x = .returned (.bool (keyOk key.data.toList)) ∧ w' = w) := fun w => l11Key key w hk
  unfold maxLen at hk hn hm
  rw [h1] at HNS
  subst h4
  go_enter Tryz.func21, Tryz.ntmps21
  go_wp2_with first
    | (go_at_call 40; refine (HNS.out _ (by exact IsRow.alloc HR.out _)).mono ?_; rintro x w' ⟨rfl, rfl⟩)
    | (go_at_call 39; refine (HI.out _ _ _ _).mono ?_; rintro x w' ⟨rfl, rfl⟩)
    | (go_at_call 41; refine (HN.out _).mono ?_; rintro x w' ⟨rfl, rfl⟩)
    | (go_at_call 42; refine (HK.out _).mono ?_; rintro x w' ⟨rfl, rfl⟩)
  all_goals
    go_ret
    clear HNS HI HN HK HR
    refine ⟨ret_bool ?_, (Below.refl _ _).alloc (Nat.le_refl _) _⟩
    simp_all [entOk, entBody, emp]
    try (rw [Bool.eq_iff_iff]; simp)
    try omega

set_option maxRecDepth 8000 in
set_option maxHeartbeats 4000000 in
theorem l21EntryOk_6 (kind id : Int) (key name : ByteArray) (nums : List Int) (a : Option Addr) (len cap : Nat) (w : World) (hr : IsRow .i64 w a len cap nums) (hk : key.size ≤ maxLen) (hn : name.size ≤ maxLen) (h1 : numsIn nums = true) (h2 : decide (0 ≤ id ∧ id ≤ 9999) = true) (h3 : key.toList = []) (h4 : kind = 6) :
    Calls Tryz.prog 21 #[.agg #[.int .i64 kind, .int .i64 id, .string key, .string name, .slice a len cap]] w fun x w' => x = .returned (.bool (entOk ⟨kind, id, key, name, nums⟩)) ∧ Below w.heap.size w w' := by
  obtain ⟨hz, hm⟩ := hr.len
  have HR : Hid (IsRow .i64 w a len cap nums) := hr
  clear hr
  have HNS : Hid (∀ w, IsRow .i64 w a len cap nums → Calls Tryz.prog 40 #[.slice a len cap] w fun x w' => x = .returned (.bool (numsIn nums)) ∧ w' = w) := fun w h => l11Nums a len cap nums w h
  have HI : Hid (∀ n lo hi w, Calls Tryz.prog 39 #[.int .i64 n, .int .i64 lo, .int .i64 hi] w fun x w' => x = .returned (.bool (decide (lo ≤ n ∧ n ≤ hi))) ∧ w' = w) := l1In_d
  have HN : Hid (∀ w, Calls Tryz.prog 41 #[.string name] w fun x w' => x = .returned (.bool (nameOk name.data.toList)) ∧ w' = w) := fun w => l1NameOk name w hn
  have HK : Hid (∀ w, Calls Tryz.prog 42 #[.string key] w fun x w' => x = .returned (.bool (keyOk key.data.toList)) ∧ w' = w) := fun w => l11Key key w hk
  unfold maxLen at hk hn hm
  rw [h1] at HNS
  subst h4
  go_enter Tryz.func21, Tryz.ntmps21
  go_wp2_with first
    | (go_at_call 40; refine (HNS.out _ (by exact IsRow.alloc HR.out _)).mono ?_; rintro x w' ⟨rfl, rfl⟩)
    | (go_at_call 39; refine (HI.out _ _ _ _).mono ?_; rintro x w' ⟨rfl, rfl⟩)
    | (go_at_call 41; refine (HN.out _).mono ?_; rintro x w' ⟨rfl, rfl⟩)
    | (go_at_call 42; refine (HK.out _).mono ?_; rintro x w' ⟨rfl, rfl⟩)
  all_goals
    go_ret
    clear HNS HI HN HK HR
    refine ⟨ret_bool ?_, (Below.refl _ _).alloc (Nat.le_refl _) _⟩
    simp_all [entOk, entBody, emp]
    try (rw [Bool.eq_iff_iff]; simp)
    try omega

set_option maxRecDepth 8000 in
set_option maxHeartbeats 4000000 in
theorem l21EntryOk_7 (kind id : Int) (key name : ByteArray) (nums : List Int) (a : Option Addr) (len cap : Nat) (w : World) (hr : IsRow .i64 w a len cap nums) (hk : key.size ≤ maxLen) (hn : name.size ≤ maxLen) (h1 : numsIn nums = true) (h2 : decide (0 ≤ id ∧ id ≤ 9999) = true) (h3 : key.toList = []) (h4 : kind = 7) :
    Calls Tryz.prog 21 #[.agg #[.int .i64 kind, .int .i64 id, .string key, .string name, .slice a len cap]] w fun x w' => x = .returned (.bool (entOk ⟨kind, id, key, name, nums⟩)) ∧ Below w.heap.size w w' := by
  obtain ⟨hz, hm⟩ := hr.len
  have HR : Hid (IsRow .i64 w a len cap nums) := hr
  clear hr
  have HNS : Hid (∀ w, IsRow .i64 w a len cap nums → Calls Tryz.prog 40 #[.slice a len cap] w fun x w' => x = .returned (.bool (numsIn nums)) ∧ w' = w) := fun w h => l11Nums a len cap nums w h
  have HI : Hid (∀ n lo hi w, Calls Tryz.prog 39 #[.int .i64 n, .int .i64 lo, .int .i64 hi] w fun x w' => x = .returned (.bool (decide (lo ≤ n ∧ n ≤ hi))) ∧ w' = w) := l1In_d
  have HN : Hid (∀ w, Calls Tryz.prog 41 #[.string name] w fun x w' => x = .returned (.bool (nameOk name.data.toList)) ∧ w' = w) := fun w => l1NameOk name w hn
  have HK : Hid (∀ w, Calls Tryz.prog 42 #[.string key] w fun x w' => x = .returned (.bool (keyOk key.data.toList)) ∧ w' = w) := fun w => l11Key key w hk
  unfold maxLen at hk hn hm
  rw [h1] at HNS
  subst h4
  go_enter Tryz.func21, Tryz.ntmps21
  go_wp2_with first
    | (go_at_call 40; refine (HNS.out _ (by exact IsRow.alloc HR.out _)).mono ?_; rintro x w' ⟨rfl, rfl⟩)
    | (go_at_call 39; refine (HI.out _ _ _ _).mono ?_; rintro x w' ⟨rfl, rfl⟩)
    | (go_at_call 41; refine (HN.out _).mono ?_; rintro x w' ⟨rfl, rfl⟩)
    | (go_at_call 42; refine (HK.out _).mono ?_; rintro x w' ⟨rfl, rfl⟩)
  all_goals
    go_ret
    clear HNS HI HN HK HR
    refine ⟨ret_bool ?_, (Below.refl _ _).alloc (Nat.le_refl _) _⟩
    simp_all [entOk, entBody, emp]
    try (rw [Bool.eq_iff_iff]; simp)
    try omega

set_option maxRecDepth 8000 in
set_option maxHeartbeats 4000000 in
theorem l21EntryOk_8 (kind id : Int) (key name : ByteArray) (nums : List Int) (a : Option Addr) (len cap : Nat) (w : World) (hr : IsRow .i64 w a len cap nums) (hk : key.size ≤ maxLen) (hn : name.size ≤ maxLen) (h1 : numsIn nums = true) (h2 : decide (0 ≤ id ∧ id ≤ 9999) = true) (h3 : key.toList = []) (h4 : kind = 8) :
    Calls Tryz.prog 21 #[.agg #[.int .i64 kind, .int .i64 id, .string key, .string name, .slice a len cap]] w fun x w' => x = .returned (.bool (entOk ⟨kind, id, key, name, nums⟩)) ∧ Below w.heap.size w w' := by
  obtain ⟨hz, hm⟩ := hr.len
  have HR : Hid (IsRow .i64 w a len cap nums) := hr
  clear hr
  have HNS : Hid (∀ w, IsRow .i64 w a len cap nums → Calls Tryz.prog 40 #[.slice a len cap] w fun x w' => x = .returned (.bool (numsIn nums)) ∧ w' = w) := fun w h => l11Nums a len cap nums w h
  have HI : Hid (∀ n lo hi w, Calls Tryz.prog 39 #[.int .i64 n, .int .i64 lo, .int .i64 hi] w fun x w' => x = .returned (.bool (decide (lo ≤ n ∧ n ≤ hi))) ∧ w' = w) := l1In_d
  have HN : Hid (∀ w, Calls Tryz.prog 41 #[.string name] w fun x w' => x = .returned (.bool (nameOk name.data.toList)) ∧ w' = w) := fun w => l1NameOk name w hn
  have HK : Hid (∀ w, Calls Tryz.prog 42 #[.string key] w fun x w' => x = .returned (.bool (keyOk key.data.toList)) ∧ w' = w) := fun w => l11Key key w hk
  unfold maxLen at hk hn hm
  rw [h1] at HNS
  subst h4
  go_enter Tryz.func21, Tryz.ntmps21
  go_wp2_with first
    | (go_at_call 40; refine (HNS.out _ (by exact IsRow.alloc HR.out _)).mono ?_; rintro x w' ⟨rfl, rfl⟩)
    | (go_at_call 39; refine (HI.out _ _ _ _).mono ?_; rintro x w' ⟨rfl, rfl⟩)
    | (go_at_call 41; refine (HN.out _).mono ?_; rintro x w' ⟨rfl, rfl⟩)
    | (go_at_call 42; refine (HK.out _).mono ?_; rintro x w' ⟨rfl, rfl⟩)
  all_goals
    go_ret
    clear HNS HI HN HK HR
    refine ⟨ret_bool ?_, (Below.refl _ _).alloc (Nat.le_refl _) _⟩
    simp_all [entOk, entBody, emp]
    try (rw [Bool.eq_iff_iff]; simp)
    try omega

set_option maxRecDepth 8000 in
set_option maxHeartbeats 4000000 in
theorem l21EntryOk_9 (kind id : Int) (key name : ByteArray) (nums : List Int) (a : Option Addr) (len cap : Nat) (w : World) (hr : IsRow .i64 w a len cap nums) (hk : key.size ≤ maxLen) (hn : name.size ≤ maxLen) (h1 : numsIn nums = true) (h2 : decide (0 ≤ id ∧ id ≤ 9999) = true) (h3 : key.toList = []) (h4 : kind = 9) :
    Calls Tryz.prog 21 #[.agg #[.int .i64 kind, .int .i64 id, .string key, .string name, .slice a len cap]] w fun x w' => x = .returned (.bool (entOk ⟨kind, id, key, name, nums⟩)) ∧ Below w.heap.size w w' := by
  obtain ⟨hz, hm⟩ := hr.len
  have HR : Hid (IsRow .i64 w a len cap nums) := hr
  clear hr
  have HNS : Hid (∀ w, IsRow .i64 w a len cap nums → Calls Tryz.prog 40 #[.slice a len cap] w fun x w' => x = .returned (.bool (numsIn nums)) ∧ w' = w) := fun w h => l11Nums a len cap nums w h
  have HI : Hid (∀ n lo hi w, Calls Tryz.prog 39 #[.int .i64 n, .int .i64 lo, .int .i64 hi] w fun x w' => x = .returned (.bool (decide (lo ≤ n ∧ n ≤ hi))) ∧ w' = w) := l1In_d
  have HN : Hid (∀ w, Calls Tryz.prog 41 #[.string name] w fun x w' => x = .returned (.bool (nameOk name.data.toList)) ∧ w' = w) := fun w => l1NameOk name w hn
  have HK : Hid (∀ w, Calls Tryz.prog 42 #[.string key] w fun x w' => x = .returned (.bool (keyOk key.data.toList)) ∧ w' = w) := fun w => l11Key key w hk
  unfold maxLen at hk hn hm
  rw [h1] at HNS
  subst h4
  go_enter Tryz.func21, Tryz.ntmps21
  go_wp2_with first
    | (go_at_call 40; refine (HNS.out _ (by exact IsRow.alloc HR.out _)).mono ?_; rintro x w' ⟨rfl, rfl⟩)
    | (go_at_call 39; refine (HI.out _ _ _ _).mono ?_; rintro x w' ⟨rfl, rfl⟩)
    | (go_at_call 41; refine (HN.out _).mono ?_; rintro x w' ⟨rfl, rfl⟩)
    | (go_at_call 42; refine (HK.out _).mono ?_; rintro x w' ⟨rfl, rfl⟩)
  all_goals
    go_ret
    clear HNS HI HN HK HR
    refine ⟨ret_bool ?_, (Below.refl _ _).alloc (Nat.le_refl _) _⟩
    simp_all [entOk, entBody, emp]
    try (rw [Bool.eq_iff_iff]; simp)
    try omega

set_option maxRecDepth 8000 in
set_option maxHeartbeats 4000000 in
theorem l21EntryOk_3 (kind id : Int) (key name : ByteArray) (nums : List Int) (a : Option Addr) (len cap : Nat) (w : World) (hr : IsRow .i64 w a len cap nums) (hk : key.size ≤ maxLen) (hn : name.size ≤ maxLen) (h1 : numsIn nums = true) (h2 : decide (0 ≤ id ∧ id ≤ 9999) = true) (h4 : kind = 3) :
    Calls Tryz.prog 21 #[.agg #[.int .i64 kind, .int .i64 id, .string key, .string name, .slice a len cap]] w fun x w' => x = .returned (.bool (entOk ⟨kind, id, key, name, nums⟩)) ∧ Below w.heap.size w w' := by
  obtain ⟨hz, hm⟩ := hr.len
  have HR : Hid (IsRow .i64 w a len cap nums) := hr
  clear hr
  have HNS : Hid (∀ w, IsRow .i64 w a len cap nums → Calls Tryz.prog 40 #[.slice a len cap] w fun x w' => x = .returned (.bool (numsIn nums)) ∧ w' = w) := fun w h => l11Nums a len cap nums w h
  have HI : Hid (∀ n lo hi w, Calls Tryz.prog 39 #[.int .i64 n, .int .i64 lo, .int .i64 hi] w fun x w' => x = .returned (.bool (decide (lo ≤ n ∧ n ≤ hi))) ∧ w' = w) := l1In_d
  have HN : Hid (∀ w, Calls Tryz.prog 41 #[.string name] w fun x w' => x = .returned (.bool (nameOk name.data.toList)) ∧ w' = w) := fun w => l1NameOk name w hn
  have HK : Hid (∀ w, Calls Tryz.prog 42 #[.string key] w fun x w' => x = .returned (.bool (keyOk key.data.toList)) ∧ w' = w) := fun w => l11Key key w hk
  unfold maxLen at hk hn hm
  rw [h1] at HNS
  subst h4
  go_enter Tryz.func21, Tryz.ntmps21
  go_wp2_with first
    | (go_at_call 40; refine (HNS.out _ (by exact IsRow.alloc HR.out _)).mono ?_; rintro x w' ⟨rfl, rfl⟩)
    | (go_at_call 39; refine (HI.out _ _ _ _).mono ?_; rintro x w' ⟨rfl, rfl⟩)
    | (go_at_call 41; refine (HN.out _).mono ?_; rintro x w' ⟨rfl, rfl⟩)
    | (go_at_call 42; refine (HK.out _).mono ?_; rintro x w' ⟨rfl, rfl⟩)
  all_goals
    go_ret
    clear HNS HI HN HK HR
    refine ⟨ret_bool ?_, (Below.refl _ _).alloc (Nat.le_refl _) _⟩
    simp_all [entOk, entBody, emp]
    try (rw [Bool.eq_iff_iff]; simp)
    try omega

set_option maxRecDepth 8000 in
set_option maxHeartbeats 4000000 in
theorem l21EntryOk_o (kind id : Int) (key name : ByteArray) (nums : List Int) (a : Option Addr) (len cap : Nat) (w : World) (hr : IsRow .i64 w a len cap nums) (hk : key.size ≤ maxLen) (hn : name.size ≤ maxLen) (h1 : numsIn nums = true) (h2 : decide (0 ≤ id ∧ id ≤ 9999) = true) (h3 : key.toList = []) (h4 : kind < 1 ∨ 9 < kind) :
    Calls Tryz.prog 21 #[.agg #[.int .i64 kind, .int .i64 id, .string key, .string name, .slice a len cap]] w fun x w' => x = .returned (.bool (entOk ⟨kind, id, key, name, nums⟩)) ∧ Below w.heap.size w w' := by
  obtain ⟨hz, hm⟩ := hr.len
  have HR : Hid (IsRow .i64 w a len cap nums) := hr
  clear hr
  have HNS : Hid (∀ w, IsRow .i64 w a len cap nums → Calls Tryz.prog 40 #[.slice a len cap] w fun x w' => x = .returned (.bool (numsIn nums)) ∧ w' = w) := fun w h => l11Nums a len cap nums w h
  have HI : Hid (∀ n lo hi w, Calls Tryz.prog 39 #[.int .i64 n, .int .i64 lo, .int .i64 hi] w fun x w' => x = .returned (.bool (decide (lo ≤ n ∧ n ≤ hi))) ∧ w' = w) := l1In_d
  have HN : Hid (∀ w, Calls Tryz.prog 41 #[.string name] w fun x w' => x = .returned (.bool (nameOk name.data.toList)) ∧ w' = w) := fun w => l1NameOk name w hn
  have HK : Hid (∀ w, Calls Tryz.prog 42 #[.string key] w fun x w' => x = .returned (.bool (keyOk key.data.toList)) ∧ w' = w) := fun w => l11Key key w hk
  unfold maxLen at hk hn hm
  rw [h1] at HNS
  have h5 : kind ≠ 1 ∧ kind ≠ 2 ∧ kind ≠ 3 ∧ kind ≠ 4 ∧ kind ≠ 5 ∧ kind ≠ 6 ∧ kind ≠ 7 ∧ kind ≠ 8 ∧ kind ≠ 9 := by omega
  obtain ⟨n1, n2, n3, n4, n5, n6, n7, n8, n9⟩ := h5
  clear h4
  go_enter Tryz.func21, Tryz.ntmps21
  go_wp2_with first
    | (go_at_call 40; refine (HNS.out _ (by exact IsRow.alloc HR.out _)).mono ?_; rintro x w' ⟨rfl, rfl⟩)
    | (go_at_call 39; refine (HI.out _ _ _ _).mono ?_; rintro x w' ⟨rfl, rfl⟩)
    | (go_at_call 41; refine (HN.out _).mono ?_; rintro x w' ⟨rfl, rfl⟩)
    | (go_at_call 42; refine (HK.out _).mono ?_; rintro x w' ⟨rfl, rfl⟩)
  all_goals
    go_ret
    clear HNS HI HN HK HR
    refine ⟨ret_bool ?_, (Below.refl _ _).alloc (Nat.le_refl _) _⟩
    simp_all [entOk, entBody, emp]
    try (rw [Bool.eq_iff_iff]; simp)
    try omega

theorem l21EntryOk (e : Ent) (a : Option Addr) (len cap : Nat) (w : World) (hr : IsRow .i64 w a len cap e.nums) (hk : e.key.size ≤ maxLen) (hn : e.name.size ≤ maxLen) :
    Calls Tryz.prog 21 #[.agg #[.int .i64 e.kind, .int .i64 e.id, .string e.key, .string e.name, .slice a len cap]] w fun x w' => x = .returned (.bool (entOk e)) ∧ Below w.heap.size w w' := by
  obtain ⟨kind, id, key, name, nums⟩ := e
  by_cases h1 : numsIn nums = true
  · by_cases h2 : decide (0 ≤ id ∧ id ≤ 9999) = true
    · by_cases h4 : kind = 3
      · exact l21EntryOk_3 _ _ _ _ _ _ _ _ _ hr hk hn h1 h2 h4
      · by_cases h3 : key.toList = []
        · rcases (by omega : (kind < 1 ∨ 9 < kind) ∨ kind = 1 ∨ kind = 2 ∨ kind = 4 ∨ kind = 5 ∨ kind = 6 ∨ kind = 7 ∨ kind = 8 ∨ kind = 9) with h | h | h | h | h | h | h | h | h
          · exact l21EntryOk_o _ _ _ _ _ _ _ _ _ hr hk hn h1 h2 h3 h
          · exact l21EntryOk_1 _ _ _ _ _ _ _ _ _ hr hk hn h1 h2 h3 h
          · exact l21EntryOk_2 _ _ _ _ _ _ _ _ _ hr hk hn h1 h2 h3 h
          · exact l21EntryOk_4 _ _ _ _ _ _ _ _ _ hr hk hn h1 h2 h3 h
          · exact l21EntryOk_5 _ _ _ _ _ _ _ _ _ hr hk hn h1 h2 h3 h
          · exact l21EntryOk_6 _ _ _ _ _ _ _ _ _ hr hk hn h1 h2 h3 h
          · exact l21EntryOk_7 _ _ _ _ _ _ _ _ _ hr hk hn h1 h2 h3 h
          · exact l21EntryOk_8 _ _ _ _ _ _ _ _ _ hr hk hn h1 h2 h3 h
          · exact l21EntryOk_9 _ _ _ _ _ _ _ _ _ hr hk hn h1 h2 h3 h
        · exact l21EntryOk_f3 _ _ _ _ _ _ _ _ _ hr hk hn h1 h2 h3 h4
    · exact l21EntryOk_f2 _ _ _ _ _ _ _ _ _ hr hk hn h1 (by simpa using h2)
  · exact l21EntryOk_f1 _ _ _ _ _ _ _ _ _ hr hk hn (by simpa using h1)
end Go.Proofs.YtbngjpnbjknliaaGreatDoor

namespace Go.Proofs.YtbngjpnbjknliaaGreatDoor
set_option linter.unusedVariables false
set_option linter.unusedSimpArgs false
open Go.RowKit Go

/-- A figure. -/
def digC (u : Nat) : UInt8 := UInt8.ofNat (48 + u)
/-- Decimals, as a string. -/
def decB (u : Nat) : ByteArray := ⟨(Lib.decDigits u).toArray⟩
theorem decB_small {u : Nat} (h : u < 10) : decB u = ⟨#[digC u]⟩ := by unfold decB; rw [Lib.decDigits, dif_pos h]; rfl
theorem decB_more {u : Nat} (h : ¬ u < 10) : decB u = decB (u / 10) ++ ⟨#[digC (u % 10)]⟩ := by
  unfold decB; rw [Lib.decDigits, dif_neg h]; ext1; simp [digC]

theorem decB_size (u : Nat) (h : u ≤ 9223372036854775807) : (decB u).size ≤ 21 := by
  have := Lib.itoa_length_le (u : Int) (by omega) (by omega)
  unfold Lib.itoa at this
  rw [if_neg (by omega)] at this
  simpa [decB, ByteArray.size] using this

/-- string(b) of one byte that lies there. -/
theorem cv_one (w : World) (b : Nat) (c : UInt8) (n : Int) (hn : n = (c.toNat : Int)) (h : w.cell? ⟨b, 0, none⟩ = some (.int .u8 n)) :
    (convert 50 9 (.slice (some ⟨b, 0, none⟩) 1 1)).run Tryz.prog w = .ok (.string ⟨#[c]⟩) w := by
  have := run_convert_bytes_back (P := Tryz.prog) w 50 9 5 ⟨b, 0, none⟩ 1 [c] Tryz.underlying50 Tryz.underlying5 Tryz.underlying9 (fun j hj => by
    have : j = 0 := by simp at hj; omega
    subst this
    rw [Addr.add]; simpa [hn] using h)
  simpa using this
theorem byte_of (u : Nat) (h : u < 10) : ((digC u).toNat : Int) = 48 + (u : Int) := by
  simp [digC]; omega

set_option maxHeartbeats 1000000 in
theorem l1Dec_nat (u : Nat) (hu : u ≤ 9223372036854775807) (w : World) :
    Calls Tryz.prog 43 #[.int .i64 u] w fun e w' => e = .returned (.string (decB u)) ∧ Below w.heap.size w w' := by
  induction u using Nat.strongRecOn generalizing w with
  | _ u ih =>
    by_cases h : u < 10
    · rw [decB_small h]
      clear ih
      have hcv := fun w b h' => cv_one w b (digC u) (48 + (u : Int)) (byte_of u h).symm h'
      go_enter Tryz.func43, Tryz.ntmps43
      go_wp2
      go_ret
      exact ⟨rfl, (Below.refl _ _).alloc (Nat.le_refl _) _⟩
    · have e1 : IntKind.i64.wrap ((u : Int) / 10) = ((u / 10 : Nat) : Int) := by rw [IntKind.wrap_i64]; omega
      have e2 : IntKind.u8.wrap (IntKind.i64.wrap (48 + (u : Int).tmod 10)) = ((digC (u % 10)).toNat : Int) := by
        rw [byte_of _ (by omega), Int.tmod_eq_emod_of_nonneg (by omega), IntKind.wrap_i64, IntKind.wrap_u8]; omega
      have IH : Hid (∀ w, Calls Tryz.prog 43 #[.int .i64 (IntKind.i64.wrap ((u : Int) / 10))] w fun e w' => e = .returned (.string (decB (u / 10))) ∧ Below w.heap.size w w') := fun w => by rw [e1]; exact ih (u / 10) (by omega) (by omega) w
      clear ih
      rw [decB_more h]
      go_enter Tryz.func43, Tryz.ntmps43
      have hcv := fun w b h' => cv_one w b (digC (u % 10)) _ e2 h'
      have hsz : (decB (u / 10)).size ≤ 21 := decB_size _ (by omega)
      have hs1 : (⟨#[digC (u % 10)]⟩ : ByteArray).size = 1 := rfl
      clear e1 e2
      go_wp2_with fail
      go_region_with (go_at_call 43; refine (IH.out _).mono ?_; rintro e w1 ⟨rfl, hw1⟩; have i0 := fun (h : w.heap.size < _) => hw1.cell (p := ⟨w.heap.size, 0, none⟩) h)
      all_goals
        go_wp2_with fail
        go_ret
        refine ⟨rfl, ?_⟩
        first
          | exact (bcall (Below.refl _ _).drew (Nat.le_refl _) hw1).alloc hw1.size _
          | exact bcall ((Below.refl _ _).alloc (Nat.le_refl _) _).drew (by simp) hw1

/-- A number's decimals, as a string. -/
def itoB (n : Int) : ByteArray := ⟨(Lib.itoa n).toArray⟩
theorem itoB_nat (u : Nat) : itoB (u : Int) = decB u := by
  unfold itoB decB Lib.itoa; rw [if_neg (by omega)]; simp
theorem itoB_neg (u : Nat) (h : 1 ≤ u) : itoB (-(u : Int)) = ⟨#[45]⟩ ++ decB u := by
  unfold itoB decB Lib.itoa; rw [if_pos (by omega)]; ext1; simp
theorem itoB_size (n : Int) (h0 : -9223372036854775808 ≤ n) (h1 : n ≤ 9223372036854775807) : (itoB n).size ≤ 21 := by
  have := Lib.itoa_length_le n h0 h1
  simpa [itoB, ByteArray.size] using this

set_option maxHeartbeats 1000000 in
theorem l1Dec (n : Int) (h0 : -9223372036854775807 ≤ n) (h1 : n ≤ 9223372036854775807) (w : World) :
    Calls Tryz.prog 43 #[.int .i64 n] w fun e w' => e = .returned (.string (itoB n)) ∧ Below w.heap.size w w' := by
  by_cases h : n < 0
  · obtain ⟨u, rfl⟩ : ∃ u : Nat, n = -(u : Int) := ⟨n.natAbs, by omega⟩
    rw [itoB_neg u (by omega)]
    have IH : Hid (∀ w, Calls Tryz.prog 43 #[.int .i64 (u : Int)] w fun e w' => e = .returned (.string (decB u)) ∧ Below w.heap.size w w') := fun w => l1Dec_nat u (by omega) w
    have hsz : (decB u).size ≤ 21 := decB_size _ (by omega)
    have hs1 : (⟨#[45]⟩ : ByteArray).size = 1 := rfl
    go_enter Tryz.func43, Tryz.ntmps43
    go_wp2_with (go_at_call 43; refine (IH.out _).mono ?_; rintro e w1 ⟨rfl, hw1⟩)
    go_ret
    exact ⟨rfl, hw1⟩
  · obtain ⟨u, rfl⟩ : ∃ u : Nat, n = (u : Int) := ⟨n.toNat, by omega⟩
    rw [itoB_nat]
    exact l1Dec_nat u (by omega) w
end Go.Proofs.YtbngjpnbjknliaaGreatDoor
