/- The model's check of an entry of a history. -/
import Derived.Test.YtmfibpfnbhhoaaaDoorHE1
import Derived.Test.YtmfibpfnbhhoaaaDoorHW1
namespace Go.Proofs.YtmfibpfnbhhoaaaDoor
set_option linter.unusedVariables false
set_option linter.unusedSimpArgs false
open Go.RowKit Go

def emp (s : ByteArray) : Bool := decide (s.toList = [])
/-- What an entry of a kind has. -/
def entBody (e : Ent) : Bool :=
  if e.kind = 1 then decide (e.id = 0) && emp e.name && decide (e.nums.length ≤ 3)
  else if e.kind = 2 then decide (e.id = 0) && nameOk e.name.data.toList && decide (e.nums.length = 0)
  else if e.kind = 3 then decide (0 < e.id) && keyOk e.key.data.toList && (emp e.name || nameOk e.name.data.toList) && decide (e.nums.length ≤ 3)
  else if e.kind = 4 ∨ e.kind = 5 then decide (0 < e.id) && emp e.name && decide (e.nums.length = 1)
  else if e.kind = 6 then decide (0 < e.id) && emp e.name && decide (e.nums.length = 0)
  else if e.kind = 7 then decide (e.id = 0) && nameOk e.name.data.toList && decide (e.nums.length = 1)
  else if e.kind = 8 then decide (e.id = 0) && emp e.name && decide (e.nums.length = 0)
  else if e.kind = 9 then decide (1 ≤ e.id ∧ e.id ≤ 4) && emp e.name && decide (1 ≤ e.nums.length ∧ e.nums.length ≤ 4)
  else false
def entOk (e : Ent) : Bool := numsIn e.nums && decide (0 ≤ e.id ∧ e.id ≤ 9999) && (emp e.key || decide (e.kind = 3)) && entBody e

set_option maxRecDepth 8000 in
set_option maxHeartbeats 4000000 in
theorem l21EntryOk_f1 (kind id : Int) (key name : ByteArray) (nums : List Int) (a : Option Addr) (len cap : Nat) (w : World) (hr : IsRow .i64 w a len cap nums) (hk : key.size ≤ maxLen) (hn : name.size ≤ maxLen) (h1 : numsIn nums = false) :
    Calls Tryd.prog 22 #[.agg #[.int .i64 kind, .int .i64 id, .string key, .string name, .slice a len cap]] w fun x w' => x = .returned (.bool (entOk ⟨kind, id, key, name, nums⟩)) ∧ Below w.heap.size w w' := by
  obtain ⟨hz, hm⟩ := hr.len
  have HR : Hid (IsRow .i64 w a len cap nums) := hr
  clear hr
  have HNS : Hid (∀ w, IsRow .i64 w a len cap nums → Calls Tryd.prog 37 #[.slice a len cap] w fun x w' => x = .returned (.bool (numsIn nums)) ∧ w' = w) := fun w h => l11Nums a len cap nums w h
  have HI : Hid (∀ n lo hi w, Calls Tryd.prog 38 #[.int .i64 n, .int .i64 lo, .int .i64 hi] w fun x w' => x = .returned (.bool (decide (lo ≤ n ∧ n ≤ hi))) ∧ w' = w) := l1In_d
  have HN : Hid (∀ w, Calls Tryd.prog 39 #[.string name] w fun x w' => x = .returned (.bool (nameOk name.data.toList)) ∧ w' = w) := fun w => l1NameOk name w hn
  have HK : Hid (∀ w, Calls Tryd.prog 40 #[.string key] w fun x w' => x = .returned (.bool (keyOk key.data.toList)) ∧ w' = w) := fun w => l11Key key w hk
  unfold maxLen at hk hn hm
  rw [h1] at HNS
  go_enter Tryd.func22, Tryd.ntmps22
  go_wp2_with first
    | (go_at_call 37; refine (HNS.out _ (by exact IsRow.alloc HR.out _)).mono ?_; rintro x w' ⟨rfl, rfl⟩)
    | (go_at_call 38; refine (HI.out _ _ _ _).mono ?_; rintro x w' ⟨rfl, rfl⟩)
    | (go_at_call 39; refine (HN.out _).mono ?_; rintro x w' ⟨rfl, rfl⟩)
    | (go_at_call 40; refine (HK.out _).mono ?_; rintro x w' ⟨rfl, rfl⟩)
  all_goals
    go_ret
    clear HNS HI HN HK HR
    refine ⟨ret_bool ?_, (Below.refl _ _).alloc (Nat.le_refl _) _⟩
    simp_all [entOk, entBody, emp]
    try (rw [Bool.eq_iff_iff]; simp)
    try omega

set_option maxRecDepth 8000 in
set_option maxHeartbeats 4000000 in
theorem l21EntryOk_f2 (kind id : Int) (key name : ByteArray) (nums : List Int) (a : Option Addr) (len cap : Nat) (w : World) (hr : IsRow .i64 w a len cap nums) (hk : key.size ≤ maxLen) (hn : name.size ≤ maxLen) (h1 : numsIn nums = true) (h2 : decide (0 ≤ id ∧ id ≤ 9999) = false) :
    Calls Tryd.prog 22 #[.agg #[.int .i64 kind, .int .i64 id, .string key, .string name, .slice a len cap]] w fun x w' => x = .returned (.bool (entOk ⟨kind, id, key, name, nums⟩)) ∧ Below w.heap.size w w' := by
  obtain ⟨hz, hm⟩ := hr.len
  have HR : Hid (IsRow .i64 w a len cap nums) := hr
  clear hr
  have HNS : Hid (∀ w, IsRow .i64 w a len cap nums → Calls Tryd.prog 37 #[.slice a len cap] w fun x w' => x = .returned (.bool (numsIn nums)) ∧ w' = w) := fun w h => l11Nums a len cap nums w h
  have HI : Hid (∀ n lo hi w, Calls Tryd.prog 38 #[.int .i64 n, .int .i64 lo, .int .i64 hi] w fun x w' => x = .returned (.bool (decide (lo ≤ n ∧ n ≤ hi))) ∧ w' = w) := l1In_d
  have HN : Hid (∀ w, Calls Tryd.prog 39 #[.string name] w fun x w' => x = .returned (.bool (nameOk name.data.toList)) ∧ w' = w) := fun w => l1NameOk name w hn
  have HK : Hid (∀ w, Calls Tryd.prog 40 #[.string key] w fun x w' => x = .returned (.bool (keyOk key.data.toList)) ∧ w' = w) := fun w => l11Key key w hk
  unfold maxLen at hk hn hm
  rw [h1] at HNS
  go_enter Tryd.func22, Tryd.ntmps22
  go_wp2_with first
    | (go_at_call 37; refine (HNS.out _ (by exact IsRow.alloc HR.out _)).mono ?_; rintro x w' ⟨rfl, rfl⟩)
    | (go_at_call 38; refine (HI.out _ _ _ _).mono ?_; rintro x w' ⟨rfl, rfl⟩)
    | (go_at_call 39; refine (HN.out _).mono ?_; rintro x w' ⟨rfl, rfl⟩)
    | (go_at_call 40; refine (HK.out _).mono ?_; rintro x w' ⟨rfl, rfl⟩)
  all_goals
    go_ret
    clear HNS HI HN HK HR
    refine ⟨ret_bool ?_, (Below.refl _ _).alloc (Nat.le_refl _) _⟩
    simp_all [entOk, entBody, emp]
    try (rw [Bool.eq_iff_iff]; simp)
    try omega

set_option maxRecDepth 8000 in
set_option maxHeartbeats 4000000 in
theorem l21EntryOk_f3 (kind id : Int) (key name : ByteArray) (nums : List Int) (a : Option Addr) (len cap : Nat) (w : World) (hr : IsRow .i64 w a len cap nums) (hk : key.size ≤ maxLen) (hn : name.size ≤ maxLen) (h1 : numsIn nums = true) (h2 : decide (0 ≤ id ∧ id ≤ 9999) = true) (h3 : key.toList ≠ []) (h4 : kind ≠ 3) :
    Calls Tryd.prog 22 #[.agg #[.int .i64 kind, .int .i64 id, .string key, .string name, .slice a len cap]] w fun x w' => x = .returned (.bool (entOk ⟨kind, id, key, name, nums⟩)) ∧ Below w.heap.size w w' := by
  obtain ⟨hz, hm⟩ := hr.len
  have HR : Hid (IsRow .i64 w a len cap nums) := hr
  clear hr
  have HNS : Hid (∀ w, IsRow .i64 w a len cap nums → Calls Tryd.prog 37 #[.slice a len cap] w fun x w' => x = .returned (.bool (numsIn nums)) ∧ w' = w) := fun w h => l11Nums a len cap nums w h
  have HI : Hid (∀ n lo hi w, Calls Tryd.prog 38 #[.int .i64 n, .int .i64 lo, .int .i64 hi] w fun x w' => x = .returned (.bool (decide (lo ≤ n ∧ n ≤ hi))) ∧ w' = w) := l1In_d
  have HN : Hid (∀ w, Calls Tryd.prog 39 #[.string name] w fun x w' => x = .returned (.bool (nameOk name.data.toList)) ∧ w' = w) := fun w => l1NameOk name w hn
  have HK : Hid (∀ w, Calls Tryd.prog 40 #[.string key] w fun x w' => x = .returned (.bool (keyOk key.data.toList)) ∧ w' = w) := fun w => l11Key key w hk
  unfold maxLen at hk hn hm
  rw [h1] at HNS
  go_enter Tryd.func22, Tryd.ntmps22
  go_wp2_with first
    | (go_at_call 37; refine (HNS.out _ (by exact IsRow.alloc HR.out _)).mono ?_; rintro x w' ⟨rfl, rfl⟩)
    | (go_at_call 38; refine (HI.out _ _ _ _).mono ?_; rintro x w' ⟨rfl, rfl⟩)
    | (go_at_call 39; refine (HN.out _).mono ?_; rintro x w' ⟨rfl, rfl⟩)
    | (go_at_call 40; refine (HK.out _).mono ?_; rintro x w' ⟨rfl, rfl⟩)
  all_goals
    go_ret
    clear HNS HI HN HK HR
    refine ⟨ret_bool ?_, (Below.refl _ _).alloc (Nat.le_refl _) _⟩
    simp_all [entOk, entBody, emp]
    try (rw [Bool.eq_iff_iff]; simp)
    try omega

set_option maxRecDepth 8000 in
set_option maxHeartbeats 4000000 in
theorem l21EntryOk_1 (kind id : Int) (key name : ByteArray) (nums : List Int) (a : Option Addr) (len cap : Nat) (w : World) (hr : IsRow .i64 w a len cap nums) (hk : key.size ≤ maxLen) (hn : name.size ≤ maxLen) (h1 : numsIn nums = true) (h2 : decide (0 ≤ id ∧ id ≤ 9999) = true) (h3 : key.toList = []) (h4 : kind = 1) :
    Calls Tryd.prog 22 #[.agg #[.int .i64 kind, .int .i64 id, .string key, .string name, .slice a len cap]] w fun x w' => x = .returned (.bool (entOk ⟨kind, id, key, name, nums⟩)) ∧ Below w.heap.size w w' := by
  obtain ⟨hz, hm⟩ := hr.len
  have HR : Hid (IsRow .i64 w a len cap nums) := hr
  clear hr
  have HNS : Hid (∀ w, IsRow .i64 w a len cap nums → Calls Tryd.prog 37 #[.slice a len cap] w fun x w' => x = .returned (.bool (numsIn nums)) ∧ w' = w) := fun w h => l11Nums a len cap nums w h
  have HI : Hid (∀ n lo hi w, Calls Tryd.prog 38 #[.int .i64 n, .int .i64 lo, .int .i64 hi] w fun x w' => x = .returned (.bool (decide (lo ≤ n ∧ n ≤ hi))) ∧ w' = w) := l1In_d
  have HN : Hid (∀ w, Calls Tryd.prog 39 #[.string name] w fun x w' => x = .returned (.bool (nameOk name.data.toList)) ∧ w' = w) := fun w => l1NameOk name w hn
  have HK : Hid (∀ w, Calls Tryd.prog 40 #[.string key] w fun x w' => x = .returned (.bool (keyOk key.data.toList)) ∧ w' = w) := fun w => l11Key key w hk
  unfold maxLen at hk hn hm
  rw [h1] at HNS
  subst h4
  go_enter Tryd.func22, Tryd.ntmps22
  go_wp2_with first
    | (go_at_call 37; refine (HNS.out _ (by exact IsRow.alloc HR.out _)).mono ?_; rintro x w' ⟨rfl, rfl⟩)
    | (go_at_call 38; refine (HI.out _ _ _ _).mono ?_; rintro x w' ⟨rfl, rfl⟩)
    | (go_at_call 39; refine (HN.out _).mono ?_; rintro x w' ⟨rfl, rfl⟩)
    | (go_at_call 40; refine (HK.out _).mono ?_; rintro x w' ⟨rfl, rfl⟩)
  all_goals
    go_ret
    clear HNS HI HN HK HR
    refine ⟨ret_bool ?_, (Below.refl _ _).alloc (Nat.le_refl _) _⟩
    simp_all [entOk, entBody, emp]
    try (rw [Bool.eq_iff_iff]; simp)
    try omega

set_option maxRecDepth 8000 in
set_option maxHeartbeats 4000000 in
theorem l21EntryOk_2 (kind id : Int) (key name : ByteArray) (nums : List Int) (a : Option Addr) (len cap : Nat) (w : World) (hr : IsRow .i64 w a len cap nums) (hk : key.size ≤ maxLen) (hn : name.size ≤ maxLen) (h1 : numsIn nums = true) (h2 : decide (0 ≤ id ∧ id ≤ 9999) = true) (h3 : key.toList = []) (h4 : kind = 2) :
    Calls Tryd.prog 22 #[.agg #[.int .i64 kind, .int .i64 id, .string key, .string name, .slice a len cap]] w fun x w' => x = .returned (.bool (entOk ⟨kind, id, key, name, nums⟩)) ∧ Below w.heap.size w w' := by
  obtain ⟨hz, hm⟩ := hr.len
  have HR : Hid (IsRow .i64 w a len cap nums) := hr
  clear hr
  have HNS : Hid (∀ w, IsRow .i64 w a len cap nums → Calls Tryd.prog 37 #[.slice a len cap] w fun x w' => x = .returned (.bool (numsIn nums)) ∧ w' = w) := fun w h => l11Nums a len cap nums w h
  have HI : Hid (∀ n lo hi w, Calls Tryd.prog 38 #[.int .i64 n, .int .i64 lo, .int .i64 hi] w fun x w' => x = .returned (.bool (decide (lo ≤ n ∧ n ≤ hi))) ∧ w' = w) := l1In_d
  have HN : Hid (∀ w, Calls Tryd.prog 39 #[.string name] w fun x w' => x = .returned (.bool (nameOk name.data.toList)) ∧ w' = w) := fun w => l1NameOk name w hn
  have HK : Hid (∀ w, Calls Tryd.prog 40 #[.string key] w fun x w' => x = .returned (.bool (keyOk key.data.toList)) ∧ w' = w) := fun w => l11Key key w hk
  unfold maxLen at hk hn hm
  rw [h1] at HNS
  subst h4
  go_enter Tryd.func22, Tryd.ntmps22
  go_wp2_with first
    | (go_at_call 37; refine (HNS.out _ (by exact IsRow.alloc HR.out _)).mono ?_; rintro x w' ⟨rfl, rfl⟩)
    | (go_at_call 38; refine (HI.out _ _ _ _).mono ?_; rintro x w' ⟨rfl, rfl⟩)
    | (go_at_call 39; refine (HN.out _).mono ?_; rintro x w' ⟨rfl, rfl⟩)
    | (go_at_call 40; refine (HK.out _).mono ?_; rintro x w' ⟨rfl, rfl⟩)
  all_goals
    go_ret
    clear HNS HI HN HK HR
    refine ⟨ret_bool ?_, (Below.refl _ _).alloc (Nat.le_refl _) _⟩
    simp_all [entOk, entBody, emp]
    try (rw [Bool.eq_iff_iff]; simp)
    try omega

set_option maxRecDepth 8000 in
set_option maxHeartbeats 4000000 in
theorem l21EntryOk_4 (kind id : Int) (key name : ByteArray) (nums : List Int) (a : Option Addr) (len cap : Nat) (w : World) (hr : IsRow .i64 w a len cap nums) (hk : key.size ≤ maxLen) (hn : name.size ≤ maxLen) (h1 : numsIn nums = true) (h2 : decide (0 ≤ id ∧ id ≤ 9999) = true) (h3 : key.toList = []) (h4 : kind = 4) :
    Calls Tryd.prog 22 #[.agg #[.int .i64 kind, .int .i64 id, .string key, .string name, .slice a len cap]] w fun x w' => x = .returned (.bool (entOk ⟨kind, id, key, name, nums⟩)) ∧ Below w.heap.size w w' := by
  obtain ⟨hz, hm⟩ := hr.len
  have HR : Hid (IsRow .i64 w a len cap nums) := hr
  clear hr
  have HNS : Hid (∀ w, IsRow .i64 w a len cap nums → Calls Tryd.prog 37 #[.slice a len cap] w fun x w' => x = .returned (.bool (numsIn nums)) ∧ w' = w) := fun w h => l11Nums a len cap nums w h
  have HI : Hid (∀ n lo hi w, Calls Tryd.prog 38 #[.int .i64 n, .int .i64 lo, .int .i64 hi] w fun x w' => x = .returned (.bool (decide (lo ≤ n ∧ n ≤ hi))) ∧ w' = w) := l1In_d
  have HN : Hid (∀ w, Calls Tryd.prog 39 #[.string name] w fun x w' => x = .returned (.bool (nameOk name.data.toList)) ∧ w' = w) := fun w => l1NameOk name w hn
  have HK : Hid (∀ w, Calls Tryd.prog 40 #[.string key] w fun x w' => x = .returned (.bool (keyOk key.data.toList)) ∧ w' = w) := fun w => l11Key key w hk
  unfold maxLen at hk hn hm
  rw [h1] at HNS
  subst h4
  go_enter Tryd.func22, Tryd.ntmps22
  go_wp2_with first
    | (go_at_call 37; refine (HNS.out _ (by exact IsRow.alloc HR.out _)).mono ?_; rintro x w' ⟨rfl, rfl⟩)
    | (go_at_call 38; refine (HI.out _ _ _ _).mono ?_; rintro x w' ⟨rfl, rfl⟩)
    | (go_at_call 39; refine (HN.out _).mono ?_; rintro x w' ⟨rfl, rfl⟩)
    | (go_at_call 40; refine (HK.out _).mono ?_; rintro x w' ⟨rfl, rfl⟩)
  all_goals
    go_ret
    clear HNS HI HN HK HR
    refine ⟨ret_bool ?_, (Below.refl _ _).alloc (Nat.le_refl _) _⟩
    simp_all [entOk, entBody, emp]
    try (rw [Bool.eq_iff_iff]; simp)
    try omega

set_option maxRecDepth 8000 in
set_option maxHeartbeats 4000000 in
theorem l21EntryOk_5 (kind id : Int) (key name : ByteArray) (nums : List Int) (a : Option Addr) (len cap : Nat) (w : World) (hr : IsRow .i64 w a len cap nums) (hk : key.size ≤ maxLen) (hn : name.size ≤ maxLen) (h1 : numsIn nums = true) (h2 : decide (0 ≤ id ∧ id ≤ 9999) = true) (h3 : key.toList = []) (h4 : kind = 5) :
    Calls Tryd.prog 22 #[.agg #[.int .i64 kind, .int .i64 id, .string key, .string name, .slice a len cap]] w fun x w' => x = .returned (.bool (entOk ⟨kind, id, key, name, nums⟩)) ∧ Below w.heap.size w w' := by
  obtain ⟨hz, hm⟩ := hr.len
  have HR : Hid (IsRow .i64 w a len cap nums) := hr
  clear hr
  have HNS : Hid (∀ w, IsRow .i64 w a len cap nums → Calls Tryd.prog 37 #[.slice a len cap] w fun x w' => x = .returned (.bool (numsIn nums)) ∧ w' = w) := fun w h => l11Nums a len cap nums w h
  have HI : Hid (∀ n lo hi w, Calls Tryd.prog 38 #[.int .i64 n, .int .i64 lo, .int .i64 hi] w fun x w' => x = .returned (.bool (decide (lo ≤ n ∧ n ≤ hi))) ∧ w' = w) := l1In_d
  have HN : Hid (∀ w, Calls Tryd.prog 39 #[.string name] w fun x w' => x = .returned (.bool (nameOk name.data.toList)) ∧ w' = w) := fun w => l1NameOk name w hn
  have HK : Hid (∀ w, Calls Tryd.prog 40 #[.string key] w fun x w' => x = .returned (.bool (keyOk key.data.toList)) ∧ w' = w) := fun w => l11Key key w hk
  unfold maxLen at hk hn hm
  rw [h1] at HNS
  subst h4
  go_enter Tryd.func22, Tryd.ntmps22
  go_wp2_with first
    | (go_at_call 37; refine (HNS.out _ (by exact IsRow.alloc HR.out _)).mono ?_; rintro x w' ⟨rfl, rfl⟩)
    | (go_at_call 38; refine (HI.out _ _ _ _).mono ?_; rintro x w' ⟨rfl, rfl⟩)
    | (go_at_call 39; refine (HN.out _).mono ?_; rintro x w' ⟨rfl, rfl⟩)
    | (go_at_call 40; refine (HK.out _).mono ?_; rintro x w' ⟨rfl, rfl⟩)
  all_goals
    go_ret
    clear HNS HI HN HK HR
    refine ⟨ret_bool ?_, (Below.refl _ _).alloc (Nat.le_refl _) _⟩
    simp_all [entOk, entBody, emp]
    try (rw [Bool.eq_iff_iff]; simp)
    try omega

set_option maxRecDepth 8000 in
set_option maxHeartbeats 4000000 in
theorem l21EntryOk_6 (kind id : Int) (key name : ByteArray) (nums : List Int) (a : Option Addr) (len cap : Nat) (w : World) (hr : IsRow .i64 w a len cap nums) (hk : key.size ≤ maxLen) (hn : name.size ≤ maxLen) (h1 : numsIn nums = true) (h2 : decide (0 ≤ id ∧ id ≤ 9999) = true) (h3 : key.toList = []) (h4 : kind = 6) :
    Calls Tryd.prog 22 #[.agg #[.int .i64 kind, .int .i64 id, .string key, .string name, .slice a len cap]] w fun x w' => x = .returned (.bool (entOk ⟨kind, id, key, name, nums⟩)) ∧ Below w.heap.size w w' := by
  obtain ⟨hz, hm⟩ := hr.len
  have HR : Hid (IsRow .i64 w a len cap nums) := hr
  clear hr
  have HNS : Hid (∀ w, IsRow .i64 w a len cap nums → Calls Tryd.prog 37 #[.slice a len cap] w fun x w' => x = .returned (.bool (numsIn nums)) ∧ w' = w) := fun w h => l11Nums a len cap nums w h
  have HI : Hid (∀ n lo hi w, Calls Tryd.prog 38 #[.int .i64 n, .int .i64 lo, .int .i64 hi] w fun x w' => x = .returned (.bool (decide (lo ≤ n ∧ n ≤ hi))) ∧ w' = w) := l1In_d
  have HN : Hid (∀ w, Calls Tryd.prog 39 #[.string name] w fun x w' => x = .returned (.bool (nameOk name.data.toList)) ∧ w' = w) := fun w => l1NameOk name w hn
  have HK : Hid (∀ w, Calls Tryd.prog 40 #[.string key] w fun x w' => x = .returned (.bool (keyOk key.data.toList)) ∧ w' = w) := fun w => l11Key key w hk
  unfold maxLen at hk hn hm
  rw [h1] at HNS
  subst h4
  go_enter Tryd.func22, Tryd.ntmps22
  go_wp2_with first
    | (go_at_call 37; refine (HNS.out _ (by exact IsRow.alloc HR.out _)).mono ?_; rintro x w' ⟨rfl, rfl⟩)
    | (go_at_call 38; refine (HI.out _ _ _ _).mono ?_; rintro x w' ⟨rfl, rfl⟩)
    | (go_at_call 39; refine (HN.out _).mono ?_; rintro x w' ⟨rfl, rfl⟩)
    | (go_at_call 40; refine (HK.out _).mono ?_; rintro x w' ⟨rfl, rfl⟩)
  all_goals
    go_ret
    clear HNS HI HN HK HR
    refine ⟨ret_bool ?_, (Below.refl _ _).alloc (Nat.le_refl _) _⟩
    simp_all [entOk, entBody, emp]
    try (rw [Bool.eq_iff_iff]; simp)
    try omega

set_option maxRecDepth 8000 in
set_option maxHeartbeats 4000000 in
theorem l21EntryOk_7 (kind id : Int) (key name : ByteArray) (nums : List Int) (a : Option Addr) (len cap : Nat) (w : World) (hr : IsRow .i64 w a len cap nums) (hk : key.size ≤ maxLen) (hn : name.size ≤ maxLen) (h1 : numsIn nums = true) (h2 : decide (0 ≤ id ∧ id ≤ 9999) = true) (h3 : key.toList = []) (h4 : kind = 7) :
    Calls Tryd.prog 22 #[.agg #[.int .i64 kind, .int .i64 id, .string key, .string name, .slice a len cap]] w fun x w' => x = .returned (.bool (entOk ⟨kind, id, key, name, nums⟩)) ∧ Below w.heap.size w w' := by
  obtain ⟨hz, hm⟩ := hr.len
  have HR : Hid (IsRow .i64 w a len cap nums) := hr
  clear hr
  have HNS : Hid (∀ w, IsRow .i64 w a len cap nums → Calls Tryd.prog 37 #[.slice a len cap] w fun x w' => x = .returned (.bool (numsIn nums)) ∧ w' = w) := fun w h => l11Nums a len cap nums w h
  have HI : Hid (∀ n lo hi w, Calls Tryd.prog 38 #[.int .i64 n, .int .i64 lo, .int .i64 hi] w fun x w' => x = .returned (.bool (decide (lo ≤ n ∧ n ≤ hi))) ∧ w' = w) := l1In_d
  have HN : Hid (∀ w, Calls Tryd.prog 39 #[.string name] w fun x w' => x = .returned (.bool (nameOk name.data.toList)) ∧ w' = w) := fun w => l1NameOk name w hn
  have HK : Hid (∀ w, Calls Tryd.prog 40 #[.string key] w fun x w' => x = .returned (.bool (keyOk key.data.toList)) ∧ w' = w) := fun w => l11Key key w hk
  unfold maxLen at hk hn hm
  rw [h1] at HNS
  subst h4
  go_enter Tryd.func22, Tryd.ntmps22
  go_wp2_with first
    | (go_at_call 37; refine (HNS.out _ (by exact IsRow.alloc HR.out _)).mono ?_; rintro x w' ⟨rfl, rfl⟩)
    | (go_at_call 38; refine (HI.out _ _ _ _).mono ?_; rintro x w' ⟨rfl, rfl⟩)
    | (go_at_call 39; refine (HN.out _).mono ?_; rintro x w' ⟨rfl, rfl⟩)
    | (go_at_call 40; refine (HK.out _).mono ?_; rintro x w' ⟨rfl, rfl⟩)
  all_goals
    go_ret
    clear HNS HI HN HK HR
    refine ⟨ret_bool ?_, (Below.refl _ _).alloc (Nat.le_refl _) _⟩
    simp_all [entOk, entBody, emp]
    try (rw [Bool.eq_iff_iff]; simp)
    try omega

set_option maxRecDepth 8000 in
set_option maxHeartbeats 4000000 in
theorem l21EntryOk_8 (kind id : Int) (key name : ByteArray) (nums : List Int) (a : Option Addr) (len cap : Nat) (w : World) (hr : IsRow .i64 w a len cap nums) (hk : key.size ≤ maxLen) (hn : name.size ≤ maxLen) (h1 : numsIn nums = true) (h2 : decide (0 ≤ id ∧ id ≤ 9999) = true) (h3 : key.toList = []) (h4 : kind = 8) :
    Calls Tryd.prog 22 #[.agg #[.int .i64 kind, .int .i64 id, .string key, .string name, .slice a len cap]] w fun x w' => x = .returned (.bool (entOk ⟨kind, id, key, name, nums⟩)) ∧ Below w.heap.size w w' := by
  obtain ⟨hz, hm⟩ := hr.len
  have HR : Hid (IsRow .i64 w a len cap nums) := hr
  clear hr
  have HNS : Hid (∀ w, IsRow .i64 w a len cap nums → Calls Tryd.prog 37 #[.slice a len cap] w fun x w' => x = .returned (.bool (numsIn nums)) ∧ w' = w) := fun w h => l11Nums a len cap nums w h
  have HI : Hid (∀ n lo hi w, Calls Tryd.prog 38 #[.int .i64 n, .int .i64 lo, .int .i64 hi] w fun x w' => x = .returned (.bool (decide (lo ≤ n ∧ n ≤ hi))) ∧ w' = w) := l1In_d
  have HN : Hid (∀ w, Calls Tryd.prog 39 #[.string name] w fun x w' => x = .returned (.bool (nameOk name.data.toList)) ∧ w' = w) := fun w => l1NameOk name w hn
  have HK : Hid (∀ w, Calls Tryd.prog 40 #[.string key] w fun x w' => x = .returned (.bool (keyOk key.data.toList)) ∧ w' = w) := fun w => l11Key key w hk
  unfold maxLen at hk hn hm
  rw [h1] at HNS
  subst h4
  go_enter Tryd.func22, Tryd.ntmps22
  go_wp2_with first
    | (go_at_call 37; refine (HNS.out _ (by exact IsRow.alloc HR.out _)).mono ?_; rintro x w' ⟨rfl, rfl⟩)
    | (go_at_call 38; refine (HI.out _ _ _ _).mono ?_; rintro x w' ⟨rfl, rfl⟩)
    | (go_at_call 39; refine (HN.out _).mono ?_; rintro x w' ⟨rfl, rfl⟩)
    | (go_at_call 40; refine (HK.out _).mono ?_; rintro x w' ⟨rfl, rfl⟩)
  all_goals
    go_ret
    clear HNS HI HN HK HR
    refine ⟨ret_bool ?_, (Below.refl _ _).alloc (Nat.le_refl _) _⟩
    simp_all [entOk, entBody, emp]
    try (rw [Bool.eq_iff_iff]; simp)
    try omega

set_option maxRecDepth 8000 in
set_option maxHeartbeats 4000000 in
theorem l21EntryOk_9 (kind id : Int) (key name : ByteArray) (nums : List Int) (a : Option Addr) (len cap : Nat) (w : World) (hr : IsRow .i64 w a len cap nums) (hk : key.size ≤ maxLen) (hn : name.size ≤ maxLen) (h1 : numsIn nums = true) (h2 : decide (0 ≤ id ∧ id ≤ 9999) = true) (h3 : key.toList = []) (h4 : kind = 9) :
    Calls Tryd.prog 22 #[.agg #[.int .i64 kind, .int .i64 id, .string key, .string name, .slice a len cap]] w fun x w' => x = .returned (.bool (entOk ⟨kind, id, key, name, nums⟩)) ∧ Below w.heap.size w w' := by
  obtain ⟨hz, hm⟩ := hr.len
  have HR : Hid (IsRow .i64 w a len cap nums) := hr
  clear hr
  have HNS : Hid (∀ w, IsRow .i64 w a len cap nums → Calls Tryd.prog 37 #[.slice a len cap] w fun x w' => x = .returned (.bool (numsIn nums)) ∧ w' = w) := fun w h => l11Nums a len cap nums w h
  have HI : Hid (∀ n lo hi w, Calls Tryd.prog 38 #[.int .i64 n, .int .i64 lo, .int .i64 hi] w fun x w' => x = .returned (.bool (decide (lo ≤ n ∧ n ≤ hi))) ∧ w' = w) := l1In_d
  have HN : Hid (∀ w, Calls Tryd.prog 39 #[.string name] w fun x w' => x = .returned (.bool (nameOk name.data.toList)) ∧ w' = w) := fun w => l1NameOk name w hn
  have HK : Hid (∀ w, Calls Tryd.prog 40 #[.string key] w fun x w' => x = .returned (.bool (keyOk key.data.toList)) ∧ w' = w) := fun w => l11Key key w hk
  unfold maxLen at hk hn hm
  rw [h1] at HNS
  subst h4
  go_enter Tryd.func22, Tryd.ntmps22
  go_wp2_with first
    | (go_at_call 37; refine (HNS.out _ (by exact IsRow.alloc HR.out _)).mono ?_; rintro x w' ⟨rfl, rfl⟩)
    | (go_at_call 38; refine (HI.out _ _ _ _).mono ?_; rintro x w' ⟨rfl, rfl⟩)
    | (go_at_call 39; refine (HN.out _).mono ?_; rintro x w' ⟨rfl, rfl⟩)
    | (go_at_call 40; refine (HK.out _).mono ?_; rintro x w' ⟨rfl, rfl⟩)
  all_goals
    go_ret
    clear HNS HI HN HK HR
    refine ⟨ret_bool ?_, (Below.refl _ _).alloc (Nat.le_refl _) _⟩
    simp_all [entOk, entBody, emp]
    try (rw [Bool.eq_iff_iff]; simp)
    try omega

set_option maxRecDepth 8000 in
set_option maxHeartbeats 4000000 in
theorem l21EntryOk_3 (kind id : Int) (key name : ByteArray) (nums : List Int) (a : Option Addr) (len cap : Nat) (w : World) (hr : IsRow .i64 w a len cap nums) (hk : key.size ≤ maxLen) (hn : name.size ≤ maxLen) (h1 : numsIn nums = true) (h2 : decide (0 ≤ id ∧ id ≤ 9999) = true) (h4 : kind = 3) :
    Calls Tryd.prog 22 #[.agg #[.int .i64 kind, .int .i64 id, .string key, .string name, .slice a len cap]] w fun x w' => x = .returned (.bool (entOk ⟨kind, id, key, name, nums⟩)) ∧ Below w.heap.size w w' := by
  obtain ⟨hz, hm⟩ := hr.len
  have HR : Hid (IsRow .i64 w a len cap nums) := hr
  clear hr
  have HNS : Hid (∀ w, IsRow .i64 w a len cap nums → Calls Tryd.prog 37 #[.slice a len cap] w fun x w' => x = .returned (.bool (numsIn nums)) ∧ w' = w) := fun w h => l11Nums a len cap nums w h
  have HI : Hid (∀ n lo hi w, Calls Tryd.prog 38 #[.int .i64 n, .int .i64 lo, .int .i64 hi] w fun x w' => x = .returned (.bool (decide (lo ≤ n ∧ n ≤ hi))) ∧ w' = w) := l1In_d
  have HN : Hid (∀ w, Calls Tryd.prog 39 #[.string name] w fun x w' => x = .returned (.bool (nameOk name.data.toList)) ∧ w' = w) := fun w => l1NameOk name w hn
  have HK : Hid (∀ w, Calls Tryd.prog 40 #[.string key] w fun x w' => x = .returned (.bool (keyOk key.data.toList)) ∧ w' = w) := fun w => l11Key key w hk
  unfold maxLen at hk hn hm
  rw [h1] at HNS
  subst h4
  go_enter Tryd.func22, Tryd.ntmps22
  go_wp2_with first
    | (go_at_call 37; refine (HNS.out _ (by exact IsRow.alloc HR.out _)).mono ?_; rintro x w' ⟨rfl, rfl⟩)
    | (go_at_call 38; refine (HI.out _ _ _ _).mono ?_; rintro x w' ⟨rfl, rfl⟩)
    | (go_at_call 39; refine (HN.out _).mono ?_; rintro x w' ⟨rfl, rfl⟩)
    | (go_at_call 40; refine (HK.out _).mono ?_; rintro x w' ⟨rfl, rfl⟩)
  all_goals
    go_ret
    clear HNS HI HN HK HR
    refine ⟨ret_bool ?_, (Below.refl _ _).alloc (Nat.le_refl _) _⟩
    simp_all [entOk, entBody, emp]
    try (rw [Bool.eq_iff_iff]; simp)
    try omega

set_option maxRecDepth 8000 in
set_option maxHeartbeats 4000000 in
theorem l21EntryOk_o (kind id : Int) (key name : ByteArray) (nums : List Int) (a : Option Addr) (len cap : Nat) (w : World) (hr : IsRow .i64 w a len cap nums) (hk : key.size ≤ maxLen) (hn : name.size ≤ maxLen) (h1 : numsIn nums = true) (h2 : decide (0 ≤ id ∧ id ≤ 9999) = true) (h3 : key.toList = []) (h4 : kind < 1 ∨ 9 < kind) :
    Calls Tryd.prog 22 #[.agg #[.int .i64 kind, .int .i64 id, .string key, .string name, .slice a len cap]] w fun x w' => x = .returned (.bool (entOk ⟨kind, id, key, name, nums⟩)) ∧ Below w.heap.size w w' := by
  obtain ⟨hz, hm⟩ := hr.len
  have HR : Hid (IsRow .i64 w a len cap nums) := hr
  clear hr
  have HNS : Hid (∀ w, IsRow .i64 w a len cap nums → Calls Tryd.prog 37 #[.slice a len cap] w fun x w' => x = .returned (.bool (numsIn nums)) ∧ w' = w) := fun w h => l11Nums a len cap nums w h
  have HI : Hid (∀ n lo hi w, Calls Tryd.prog 38 #[.int .i64 n, .int .i64 lo, .int .i64 hi] w fun x w' => x = .returned (.bool (decide (lo ≤ n ∧ n ≤ hi))) ∧ w' = w) := l1In_d
  have HN : Hid (∀ w, Calls Tryd.prog 39 #[.string name] w fun x w' => x = .returned (.bool (nameOk name.data.toList)) ∧ w' = w) := fun w => l1NameOk name w hn
  have HK : Hid (∀ w, Calls Tryd.prog 40 #[.string key] w fun x w' => x = .returned (.bool (keyOk key.data.toList)) ∧ w' = w) := fun w => l11Key key w hk
  unfold maxLen at hk hn hm
  rw [h1] at HNS
  have h5 : kind ≠ 1 ∧ kind ≠ 2 ∧ kind ≠ 3 ∧ kind ≠ 4 ∧ kind ≠ 5 ∧ kind ≠ 6 ∧ kind ≠ 7 ∧ kind ≠ 8 ∧ kind ≠ 9 := by omega
  obtain ⟨n1, n2, n3, n4, n5, n6, n7, n8, n9⟩ := h5
  clear h4
  go_enter Tryd.func22, Tryd.ntmps22
  go_wp2_with first
    | (go_at_call 37; refine (HNS.out _ (by exact IsRow.alloc HR.out _)).mono ?_; rintro x w' ⟨rfl, rfl⟩)
    | (go_at_call 38; refine (HI.out _ _ _ _).mono ?_; rintro x w' ⟨rfl, rfl⟩)
    | (go_at_call 39; refine (HN.out _).mono ?_; rintro x w' ⟨rfl, rfl⟩)
    | (go_at_call 40; refine (HK.out _).mono ?_; rintro x w' ⟨rfl, rfl⟩)
  all_goals
    go_ret
    clear HNS HI HN HK HR
    refine ⟨ret_bool ?_, (Below.refl _ _).alloc (Nat.le_refl _) _⟩
    simp_all [entOk, entBody, emp]
    try (rw [Bool.eq_iff_iff]; simp)
    try omega

theorem l21EntryOk (e : Ent) (a : Option Addr) (len cap : Nat) (w : World) (hr : IsRow .i64 w a len cap e.nums) (hk : e.key.size ≤ maxLen) (hn : e.name.size ≤ maxLen) :
    Calls Tryd.prog 22 #[.agg #[.int .i64 e.kind, .int .i64 e.id, .string e.key, .string e.name, .slice a len cap]] w fun x w' => x = .returned (.bool (entOk e)) ∧ Below w.heap.size w w' := by
  obtain ⟨kind, id, key, name, nums⟩ := e
  by_cases h1 : numsIn nums = true
  · by_cases h2 : decide (0 ≤ id ∧ id ≤ 9999) = true
    · by_cases h4 : kind = 3
      · exact l21EntryOk_3 _ _ _ _ _ _ _ _ _ hr hk hn h1 h2 h4
      · by_cases h3 : key.toList = []
        · rcases (by omega : (kind < 1 ∨ 9 < kind) ∨ kind = 1 ∨ kind = 2 ∨ kind = 4 ∨ kind = 5 ∨ kind = 6 ∨ kind = 7 ∨ kind = 8 ∨ kind = 9) with h | h | h | h | h | h | h | h | h
          · exact l21EntryOk_o _ _ _ _ _ _ _ _ _ hr hk hn h1 h2 h3 h
          · exact l21EntryOk_1 _ _ _ _ _ _ _ _ _ hr hk hn h1 h2 h3 h
          · exact l21EntryOk_2 _ _ _ _ _ _ _ _ _ hr hk hn h1 h2 h3 h
          · exact l21EntryOk_4 _ _ _ _ _ _ _ _ _ hr hk hn h1 h2 h3 h
          · exact l21EntryOk_5 _ _ _ _ _ _ _ _ _ hr hk hn h1 h2 h3 h
          · exact l21EntryOk_6 _ _ _ _ _ _ _ _ _ hr hk hn h1 h2 h3 h
          · exact l21EntryOk_7 _ _ _ _ _ _ _ _ _ hr hk hn h1 h2 h3 h
          · exact l21EntryOk_8 _ _ _ _ _ _ _ _ _ hr hk hn h1 h2 h3 h
          · exact l21EntryOk_9 _ _ _ _ _ _ _ _ _ hr hk hn h1 h2 h3 h
        · exact l21EntryOk_f3 _ _ _ _ _ _ _ _ _ hr hk hn h1 h2 h3 h4
    · exact l21EntryOk_f2 _ _ _ _ _ _ _ _ _ hr hk hn h1 (by simpa using h2)
  · exact l21EntryOk_f1 _ _ _ _ _ _ _ _ _ hr hk hn (by simpa using h1)
end Go.Proofs.YtmfibpfnbhhoaaaDoor
