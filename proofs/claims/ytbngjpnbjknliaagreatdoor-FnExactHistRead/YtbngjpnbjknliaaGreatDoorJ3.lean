/- The model's text of an entry of a history. -/
import Derived.Test.YtbngjpnbjknliaaGreatDoorJ2
namespace Go.Proofs.YtbngjpnbjknliaaGreatDoor
set_option linter.unusedVariables false
set_option linter.unusedSimpArgs false
open Go.RowKit Go

def spB : ByteArray := ⟨#[32]⟩
theorem e_spB : (⟨#[32]⟩ : ByteArray) = spB := rfl
theorem spB_size : spB.size = 1 := rfl
/-- Numbers behind a text, a space ahead of each. -/
def numsT (b : ByteArray) (l : List Int) : ByteArray := l.foldl (fun o n => o ++ spB ++ itoB n) b
theorem numsT_snoc (b : ByteArray) (l : List Int) (n : Int) : numsT b (l ++ [n]) = numsT b l ++ spB ++ itoB n := by simp [numsT]
theorem numIn_bd {n : Int} (h : numIn n = true) : -9999 ≤ n ∧ n ≤ 9999 := by simpa [numIn] using h
theorem numsT_size (l : List Int) (h : numsIn l = true) (b : ByteArray) : (numsT b l).size ≤ b.size + 22 * l.length := by
  induction l generalizing b with
  | nil => simp [numsT]
  | cons n l ih =>
    simp only [numsIn, List.all_cons, Bool.and_eq_true] at h
    have h1 := ih h.2 (b ++ spB ++ itoB n)
    have h2 := itoB_size n (by have := (numIn_bd h.1).1; omega) (by have := (numIn_bd h.1).2; omega)
    have e : numsT b (n :: l) = numsT (b ++ spB ++ itoB n) l := rfl
    rw [e]
    simp only [ByteArray.size_append, spB_size, List.length_cons] at h1 ⊢
    omega
theorem numsIn_take {l : List Int} (h : numsIn l = true) (k : Nat) : numsIn (l.take k) = true := by
  rw [numsIn, List.all_eq_true] at h ⊢
  intro x hx; exact h x (List.mem_of_mem_take hx)
theorem numsIn_at {l : List Int} (h : numsIn l = true) (k : Nat) (hk : k < l.length) : -9999 ≤ l.getD k 0 ∧ l.getD k 0 ≤ 9999 := by
  rw [numsIn, List.all_eq_true] at h
  rw [getD_at l k hk]
  exact numIn_bd (h _ (List.getElem_mem hk))

/-- The words of kinds. -/
def entW : List ByteArray := [⟨#[]⟩, ⟨#[115, 116, 97, 114, 116]⟩, ⟨#[109, 97, 114, 107]⟩, ⟨#[97, 115, 107]⟩, ⟨#[100, 111, 110, 101]⟩, ⟨#[98, 114, 111, 107, 101]⟩, ⟨#[102, 105, 114, 101, 100]⟩, ⟨#[115, 105, 103, 110, 97, 108]⟩, ⟨#[99, 97, 110, 99, 101, 108]⟩, ⟨#[101, 110, 100]⟩]
set_option maxHeartbeats 400000 in
theorem l21Words (w : World) : Calls Tryz.prog 19 #[] w fun e w' => e = .returned (.slice (some ⟨w.heap.size, 0, none⟩) 10 10) ∧ (∀ k (h : k < entW.length), w'.cell? ⟨w.heap.size, k, none⟩ = some (.string entW[k])) ∧ Below w.heap.size w w' := by
  go_enter Tryz.func19, Tryz.ntmps19
  go_wp2
  go_ret
  refine ⟨rfl, fun k h => ?_, (Below.refl _ _).alloc (Nat.le_refl _) _⟩
  rw [World.cell?_alloc_new]
  simp only [entW, List.length_cons, List.length_nil] at h
  rcases (by omega : k = 0 ∨ k = 1 ∨ k = 2 ∨ k = 3 ∨ k = 4 ∨ k = 5 ∨ k = 6 ∨ k = 7 ∨ k = 8 ∨ k = 9) with rfl | rfl | rfl | rfl | rfl | rfl | rfl | rfl | rfl | rfl <;> rfl

set_option maxRecDepth 4000 in
set_option maxHeartbeats 4000000 in
theorem l21Text_1 (id : Int) (key name : ByteArray) (nums : List Int) (a : Option Addr) (len cap : Nat) (w : World) (hr : IsRow .i64 w a len cap nums) (hi : 0 ≤ id ∧ id ≤ 9999) (hns : numsIn nums = true) (hl4 : nums.length ≤ 4) (hn : name.size ≤ 8) :
    Calls Tryz.prog 22 #[.agg #[.int .i64 1, .int .i64 id, .string key, .string name, .slice a len cap]] w fun x w' => x = .returned (.string (numsT ((entW[1]'(by decide))) nums)) ∧ Below w.heap.size w w' := by
  obtain ⟨hz, hm⟩ := hr.len
  have HR : Hid (IsRow .i64 w a len cap nums) := hr
  clear hr hm
  have HW : Hid (∀ w, Calls Tryz.prog 19 #[] w fun e w' => e = .returned (.slice (some ⟨w.heap.size, 0, none⟩) 10 10) ∧ (∀ k (h : k < entW.length), w'.cell? ⟨w.heap.size, k, none⟩ = some (.string entW[k])) ∧ Below w.heap.size w w') := l21Words
  have HD : Hid (∀ w, Calls Tryz.prog 43 #[.int .i64 id] w fun e w' => e = .returned (.string (itoB id)) ∧ Below w.heap.size w w') := fun w => l1Dec id (by omega) (by omega) w
  have his := itoB_size id (by omega) (by omega)
  have hks : (entW[1]'(by decide)).size = 5 := rfl
  generalize hK : (entW[1]'(by decide)) = K at hks ⊢
  have HK : Hid (entW[1]'(by decide) = K) := hK
  clear hK
  go_enter Tryz.func22, Tryz.ntmps22
  go_wp2_with fail
  go_region_with (go_at_call 19; refine (HW.out _).mono ?_; rintro e w1 ⟨rfl, hc1, hw1⟩; have d1 : w1.cell? ⟨w.heap.size + 1, 1, none⟩ = some (.string K) := (by rw [← HK.out]; simpa using hc1 1 (by decide)); clear hc1; obtain ⟨hcx, hfx⟩ := bcell hw1)
  all_goals
    have hB1 : Below (w.heap.size + 1) (w.alloc (.cells #[.int .i64 1, .int .i64 id, .string key, .string name, .slice a len cap] 32)) w1 := bcall (Below.refl _ _).drew (by simp) hw1
    clear hw1 d1 hcx hfx
    obtain ⟨c0, c1, c2, c3, c4⟩ := box5 hB1
    have HB1 : Hid _ := hB1
    clear hB1
    go_wp2_with fail
    have HBZ : Hid ((K).size ≤ 40) := by
      show (K).size ≤ 40
      first | omega | (simp only [ByteArray.size_append, spB_size]; omega)
    generalize hBB : K = B at HBZ ⊢
    have HBB : Hid _ := hBB
    clear hBB
    go_loopw [3, 4] (fun o i wr => ∃ k : Nat, k ≤ len ∧ i = .int .i64 k ∧ o = .string (numsT B (nums.take k)) ∧ Below (w.heap.size + 1) (w.alloc (.cells #[.int .i64 1, .int .i64 id, .string key, .string name, .slice a len cap] 32)) wr) (fun _ i _ => len - (intOf i).toNat)
    case atStart => exact ⟨0, Nat.zero_le _, rfl, rfl, HB1.out⟩
    case round =>
      clear c0 c1 c2 c3 c4
      obtain ⟨q, hq, rfl, rfl, hB⟩ := hrel
      obtain ⟨c0, c1, c2, c3, c4⟩ := box5 hB
      have HB : Hid _ := hB
      clear hB
      by_cases hlt : q < len
      · obtain ⟨b, off, rfl, h1, h2, hc⟩ := IsRow.at (HR.out.below (unbox HB.out)) hlt
        have hb9 := numsIn_at hns q (by omega)
        have HQ : Hid (∀ w, Calls Tryz.prog 43 #[.int .i64 (nums.getD q 0)] w fun e w' => e = .returned (.string (itoB (nums.getD q 0))) ∧ Below w.heap.size w w') := fun w => l1Dec _ (by omega) (by omega) w
        have HT : Hid (numsT B (nums.take (q + 1)) = numsT B (nums.take q) ++ spB ++ itoB (nums.getD q 0)) := by
          show _ = _
          rw [takeI_snoc nums q (by omega), numsT_snoc]
        have hz1 := itoB_size (nums.getD q 0) (by omega) (by omega)
        have hz2 : (numsT B (nums.take q)).size ≤ 200 := by
          have := numsT_size _ (numsIn_take hns q) B
          have h9 := HBZ.out
          have : (nums.take q).length ≤ 4 := by simp; omega
          omega
        have hz3 := spB_size
        generalize nums.getD q 0 = z at hc HQ HT hz1 hb9
        generalize numsT B (nums.take q) = P at HT hz2 ⊢
        have e32 := e_spB
        have hz4 : (P ++ spB).size ≤ 201 := by rw [ByteArray.size_append]; omega
        go_wp2_with (go_at_call 43; refine (HQ.out _).mono ?_; rintro e w3 ⟨rfl, hw3⟩)
        go_roundw
        case rel => exact ⟨q + 1, by omega, by go_num, by rw [HT.out], bcall HB.out (by have := HB.out.size; simpa using this) hw3⟩
        case measure => simp [intOf]; omega
      · have he : nums.take q = nums := List.take_of_length_le (by omega)
        rw [he]
        go_wp2_with fail
        go_ret
        refine ⟨?_, unbox HB.out⟩
        rw [HBB.out]; rfl

set_option maxRecDepth 4000 in
set_option maxHeartbeats 4000000 in
theorem l21Text_2 (id : Int) (key name : ByteArray) (nums : List Int) (a : Option Addr) (len cap : Nat) (w : World) (hr : IsRow .i64 w a len cap nums) (hi : 0 ≤ id ∧ id ≤ 9999) (hns : numsIn nums = true) (hl4 : nums.length ≤ 4) (hn : name.size ≤ 8) :
    Calls Tryz.prog 22 #[.agg #[.int .i64 2, .int .i64 id, .string key, .string name, .slice a len cap]] w fun x w' => x = .returned (.string (numsT ((entW[2]'(by decide)) ++ spB ++ name) nums)) ∧ Below w.heap.size w w' := by
  obtain ⟨hz, hm⟩ := hr.len
  have HR : Hid (IsRow .i64 w a len cap nums) := hr
  clear hr hm
  have HW : Hid (∀ w, Calls Tryz.prog 19 #[] w fun e w' => e = .returned (.slice (some ⟨w.heap.size, 0, none⟩) 10 10) ∧ (∀ k (h : k < entW.length), w'.cell? ⟨w.heap.size, k, none⟩ = some (.string entW[k])) ∧ Below w.heap.size w w') := l21Words
  have HD : Hid (∀ w, Calls Tryz.prog 43 #[.int .i64 id] w fun e w' => e = .returned (.string (itoB id)) ∧ Below w.heap.size w w') := fun w => l1Dec id (by omega) (by omega) w
  have his := itoB_size id (by omega) (by omega)
  have hks : (entW[2]'(by decide)).size = 4 := rfl
  generalize hK : (entW[2]'(by decide)) = K at hks ⊢
  have HK : Hid (entW[2]'(by decide) = K) := hK
  clear hK
  go_enter Tryz.func22, Tryz.ntmps22
  go_wp2_with fail
  go_region_with (go_at_call 19; refine (HW.out _).mono ?_; rintro e w1 ⟨rfl, hc1, hw1⟩; have d1 : w1.cell? ⟨w.heap.size + 1, 2, none⟩ = some (.string K) := (by rw [← HK.out]; simpa using hc1 2 (by decide)); clear hc1; obtain ⟨hcx, hfx⟩ := bcell hw1)
  all_goals
    have hB1 : Below (w.heap.size + 1) (w.alloc (.cells #[.int .i64 2, .int .i64 id, .string key, .string name, .slice a len cap] 32)) w1 := bcall (Below.refl _ _).drew (by simp) hw1
    clear hw1 d1 hcx hfx
    obtain ⟨c0, c1, c2, c3, c4⟩ := box5 hB1
    have HB1 : Hid _ := hB1
    clear hB1
    have e32 := e_spB
    have hz5 := spB_size
    have hz6 : (K ++ spB).size ≤ 20 := by rw [ByteArray.size_append]; omega
    go_wp2_with fail
    have HBZ : Hid ((K ++ spB ++ name).size ≤ 40) := by
      show (K ++ spB ++ name).size ≤ 40
      first | omega | (simp only [ByteArray.size_append, spB_size]; omega)
    generalize hBB : K ++ spB ++ name = B at HBZ ⊢
    have HBB : Hid _ := hBB
    clear hBB
    go_loopw [3, 4] (fun o i wr => ∃ k : Nat, k ≤ len ∧ i = .int .i64 k ∧ o = .string (numsT B (nums.take k)) ∧ Below (w.heap.size + 1) (w.alloc (.cells #[.int .i64 2, .int .i64 id, .string key, .string name, .slice a len cap] 32)) wr) (fun _ i _ => len - (intOf i).toNat)
    case atStart => exact ⟨0, Nat.zero_le _, rfl, rfl, HB1.out⟩
    case round =>
      clear c0 c1 c2 c3 c4
      obtain ⟨q, hq, rfl, rfl, hB⟩ := hrel
      obtain ⟨c0, c1, c2, c3, c4⟩ := box5 hB
      have HB : Hid _ := hB
      clear hB
      by_cases hlt : q < len
      · obtain ⟨b, off, rfl, h1, h2, hc⟩ := IsRow.at (HR.out.below (unbox HB.out)) hlt
        have hb9 := numsIn_at hns q (by omega)
        have HQ : Hid (∀ w, Calls Tryz.prog 43 #[.int .i64 (nums.getD q 0)] w fun e w' => e = .returned (.string (itoB (nums.getD q 0))) ∧ Below w.heap.size w w') := fun w => l1Dec _ (by omega) (by omega) w
        have HT : Hid (numsT B (nums.take (q + 1)) = numsT B (nums.take q) ++ spB ++ itoB (nums.getD q 0)) := by
          show _ = _
          rw [takeI_snoc nums q (by omega), numsT_snoc]
        have hz1 := itoB_size (nums.getD q 0) (by omega) (by omega)
        have hz2 : (numsT B (nums.take q)).size ≤ 200 := by
          have := numsT_size _ (numsIn_take hns q) B
          have h9 := HBZ.out
          have : (nums.take q).length ≤ 4 := by simp; omega
          omega
        have hz3 := spB_size
        generalize nums.getD q 0 = z at hc HQ HT hz1 hb9
        generalize numsT B (nums.take q) = P at HT hz2 ⊢
        have e32 := e_spB
        have hz4 : (P ++ spB).size ≤ 201 := by rw [ByteArray.size_append]; omega
        go_wp2_with (go_at_call 43; refine (HQ.out _).mono ?_; rintro e w3 ⟨rfl, hw3⟩)
        go_roundw
        case rel => exact ⟨q + 1, by omega, by go_num, by rw [HT.out], bcall HB.out (by have := HB.out.size; simpa using this) hw3⟩
        case measure => simp [intOf]; omega
      · have he : nums.take q = nums := List.take_of_length_le (by omega)
        rw [he]
        go_wp2_with fail
        go_ret
        refine ⟨?_, unbox HB.out⟩
        rw [HBB.out]; rfl

set_option maxRecDepth 4000 in
set_option maxHeartbeats 4000000 in
theorem l21Text_4 (id : Int) (key name : ByteArray) (nums : List Int) (a : Option Addr) (len cap : Nat) (w : World) (hr : IsRow .i64 w a len cap nums) (hi : 0 ≤ id ∧ id ≤ 9999) (hns : numsIn nums = true) (hl4 : nums.length ≤ 4) (hn : name.size ≤ 8) :
    Calls Tryz.prog 22 #[.agg #[.int .i64 4, .int .i64 id, .string key, .string name, .slice a len cap]] w fun x w' => x = .returned (.string (numsT ((entW[4]'(by decide)) ++ spB ++ itoB id) nums)) ∧ Below w.heap.size w w' := by
  obtain ⟨hz, hm⟩ := hr.len
  have HR : Hid (IsRow .i64 w a len cap nums) := hr
  clear hr hm
  have HW : Hid (∀ w, Calls Tryz.prog 19 #[] w fun e w' => e = .returned (.slice (some ⟨w.heap.size, 0, none⟩) 10 10) ∧ (∀ k (h : k < entW.length), w'.cell? ⟨w.heap.size, k, none⟩ = some (.string entW[k])) ∧ Below w.heap.size w w') := l21Words
  have HD : Hid (∀ w, Calls Tryz.prog 43 #[.int .i64 id] w fun e w' => e = .returned (.string (itoB id)) ∧ Below w.heap.size w w') := fun w => l1Dec id (by omega) (by omega) w
  have his := itoB_size id (by omega) (by omega)
  have hks : (entW[4]'(by decide)).size = 4 := rfl
  generalize hK : (entW[4]'(by decide)) = K at hks ⊢
  have HK : Hid (entW[4]'(by decide) = K) := hK
  clear hK
  go_enter Tryz.func22, Tryz.ntmps22
  go_wp2_with fail
  go_region_with (go_at_call 19; refine (HW.out _).mono ?_; rintro e w1 ⟨rfl, hc1, hw1⟩; have d1 : w1.cell? ⟨w.heap.size + 1, 4, none⟩ = some (.string K) := (by rw [← HK.out]; simpa using hc1 4 (by decide)); clear hc1; obtain ⟨hcx, hfx⟩ := bcell hw1)
  all_goals
    have hB1 : Below (w.heap.size + 1) (w.alloc (.cells #[.int .i64 4, .int .i64 id, .string key, .string name, .slice a len cap] 32)) w1 := bcall (Below.refl _ _).drew (by simp) hw1
    clear hw1 d1 hcx hfx
    obtain ⟨c0, c1, c2, c3, c4⟩ := box5 hB1
    have HB1 : Hid _ := hB1
    clear hB1
    have e32 := e_spB
    have hz5 := spB_size
    have hz6 : (K ++ spB).size ≤ 20 := by rw [ByteArray.size_append]; omega
    go_wp2_with (go_at_call 43; refine (HD.out _).mono ?_; rintro e w2 ⟨rfl, hw2⟩)
    have HBZ : Hid ((K ++ spB ++ itoB id).size ≤ 40) := by
      show (K ++ spB ++ itoB id).size ≤ 40
      first | omega | (simp only [ByteArray.size_append, spB_size]; omega)
    generalize hBB : K ++ spB ++ itoB id = B at HBZ ⊢
    have HBB : Hid _ := hBB
    clear hBB
    go_loopw [3, 4] (fun o i wr => ∃ k : Nat, k ≤ len ∧ i = .int .i64 k ∧ o = .string (numsT B (nums.take k)) ∧ Below (w.heap.size + 1) (w.alloc (.cells #[.int .i64 4, .int .i64 id, .string key, .string name, .slice a len cap] 32)) wr) (fun _ i _ => len - (intOf i).toNat)
    case atStart => exact ⟨0, Nat.zero_le _, rfl, rfl, bcall HB1.out (by have := HB1.out.size; simpa using this) hw2⟩
    case round =>
      clear c0 c1 c2 c3 c4
      obtain ⟨q, hq, rfl, rfl, hB⟩ := hrel
      obtain ⟨c0, c1, c2, c3, c4⟩ := box5 hB
      have HB : Hid _ := hB
      clear hB
      by_cases hlt : q < len
      · obtain ⟨b, off, rfl, h1, h2, hc⟩ := IsRow.at (HR.out.below (unbox HB.out)) hlt
        have hb9 := numsIn_at hns q (by omega)
        have HQ : Hid (∀ w, Calls Tryz.prog 43 #[.int .i64 (nums.getD q 0)] w fun e w' => e = .returned (.string (itoB (nums.getD q 0))) ∧ Below w.heap.size w w') := fun w => l1Dec _ (by omega) (by omega) w
        have HT : Hid (numsT B (nums.take (q + 1)) = numsT B (nums.take q) ++ spB ++ itoB (nums.getD q 0)) := by
          show _ = _
          rw [takeI_snoc nums q (by omega), numsT_snoc]
        have hz1 := itoB_size (nums.getD q 0) (by omega) (by omega)
        have hz2 : (numsT B (nums.take q)).size ≤ 200 := by
          have := numsT_size _ (numsIn_take hns q) B
          have h9 := HBZ.out
          have : (nums.take q).length ≤ 4 := by simp; omega
          omega
        have hz3 := spB_size
        generalize nums.getD q 0 = z at hc HQ HT hz1 hb9
        generalize numsT B (nums.take q) = P at HT hz2 ⊢
        have e32 := e_spB
        have hz4 : (P ++ spB).size ≤ 201 := by rw [ByteArray.size_append]; omega
        go_wp2_with (go_at_call 43; refine (HQ.out _).mono ?_; rintro e w3 ⟨rfl, hw3⟩)
        go_roundw
        case rel => exact ⟨q + 1, by omega, by go_num, by rw [HT.out], bcall HB.out (by have := HB.out.size; simpa using this) hw3⟩
        case measure => simp [intOf]; omega
      · have he : nums.take q = nums := List.take_of_length_le (by omega)
        rw [he]
        go_wp2_with fail
        go_ret
        refine ⟨?_, unbox HB.out⟩
        rw [HBB.out]; rfl

set_option maxRecDepth 4000 in
set_option maxHeartbeats 4000000 in
theorem l21Text_5 (id : Int) (key name : ByteArray) (nums : List Int) (a : Option Addr) (len cap : Nat) (w : World) (hr : IsRow .i64 w a len cap nums) (hi : 0 ≤ id ∧ id ≤ 9999) (hns : numsIn nums = true) (hl4 : nums.length ≤ 4) (hn : name.size ≤ 8) :
    Calls Tryz.prog 22 #[.agg #[.int .i64 5, .int .i64 id, .string key, .string name, .slice a len cap]] w fun x w' => x = .returned (.string (numsT ((entW[5]'(by decide)) ++ spB ++ itoB id) nums)) ∧ Below w.heap.size w w' := by
  obtain ⟨hz, hm⟩ := hr.len
  have HR : Hid (IsRow .i64 w a len cap nums) := hr
  clear hr hm
  have HW : Hid (∀ w, Calls Tryz.prog 19 #[] w fun e w' => e = .returned (.slice (some ⟨w.heap.size, 0, none⟩) 10 10) ∧ (∀ k (h : k < entW.length), w'.cell? ⟨w.heap.size, k, none⟩ = some (.string entW[k])) ∧ Below w.heap.size w w') := l21Words
  have HD : Hid (∀ w, Calls Tryz.prog 43 #[.int .i64 id] w fun e w' => e = .returned (.string (itoB id)) ∧ Below w.heap.size w w') := fun w => l1Dec id (by omega) (by omega) w
  have his := itoB_size id (by omega) (by omega)
  have hks : (entW[5]'(by decide)).size = 5 := rfl
  generalize hK : (entW[5]'(by decide)) = K at hks ⊢
  have HK : Hid (entW[5]'(by decide) = K) := hK
  clear hK
  go_enter Tryz.func22, Tryz.ntmps22
  go_wp2_with fail
  go_region_with (go_at_call 19; refine (HW.out _).mono ?_; rintro e w1 ⟨rfl, hc1, hw1⟩; have d1 : w1.cell? ⟨w.heap.size + 1, 5, none⟩ = some (.string K) := (by rw [← HK.out]; simpa using hc1 5 (by decide)); clear hc1; obtain ⟨hcx, hfx⟩ := bcell hw1)
  all_goals
    have hB1 : Below (w.heap.size + 1) (w.alloc (.cells #[.int .i64 5, .int .i64 id, .string key, .string name, .slice a len cap] 32)) w1 := bcall (Below.refl _ _).drew (by simp) hw1
    clear hw1 d1 hcx hfx
    obtain ⟨c0, c1, c2, c3, c4⟩ := box5 hB1
    have HB1 : Hid _ := hB1
    clear hB1
    have e32 := e_spB
    have hz5 := spB_size
    have hz6 : (K ++ spB).size ≤ 20 := by rw [ByteArray.size_append]; omega
    go_wp2_with (go_at_call 43; refine (HD.out _).mono ?_; rintro e w2 ⟨rfl, hw2⟩)
    have HBZ : Hid ((K ++ spB ++ itoB id).size ≤ 40) := by
      show (K ++ spB ++ itoB id).size ≤ 40
      first | omega | (simp only [ByteArray.size_append, spB_size]; omega)
    generalize hBB : K ++ spB ++ itoB id = B at HBZ ⊢
    have HBB : Hid _ := hBB
    clear hBB
    go_loopw [3, 4] (fun o i wr => ∃ k : Nat, k ≤ len ∧ i = .int .i64 k ∧ o = .string (numsT B (nums.take k)) ∧ Below (w.heap.size + 1) (w.alloc (.cells #[.int .i64 5, .int .i64 id, .string key, .string name, .slice a len cap] 32)) wr) (fun _ i _ => len - (intOf i).toNat)
    case atStart => exact ⟨0, Nat.zero_le _, rfl, rfl, bcall HB1.out (by have := HB1.out.size; simpa using this) hw2⟩
    case round =>
      clear c0 c1 c2 c3 c4
      obtain ⟨q, hq, rfl, rfl, hB⟩ := hrel
      obtain ⟨c0, c1, c2, c3, c4⟩ := box5 hB
      have HB : Hid _ := hB
      clear hB
      by_cases hlt : q < len
      · obtain ⟨b, off, rfl, h1, h2, hc⟩ := IsRow.at (HR.out.below (unbox HB.out)) hlt
        have hb9 := numsIn_at hns q (by omega)
        have HQ : Hid (∀ w, Calls Tryz.prog 43 #[.int .i64 (nums.getD q 0)] w fun e w' => e = .returned (.string (itoB (nums.getD q 0))) ∧ Below w.heap.size w w') := fun w => l1Dec _ (by omega) (by omega) w
        have HT : Hid (numsT B (nums.take (q + 1)) = numsT B (nums.take q) ++ spB ++ itoB (nums.getD q 0)) := by
          show _ = _
          rw [takeI_snoc nums q (by omega), numsT_snoc]
        have hz1 := itoB_size (nums.getD q 0) (by omega) (by omega)
        have hz2 : (numsT B (nums.take q)).size ≤ 200 := by
          have := numsT_size _ (numsIn_take hns q) B
          have h9 := HBZ.out
          have : (nums.take q).length ≤ 4 := by simp; omega
          omega
        have hz3 := spB_size
        generalize nums.getD q 0 = z at hc HQ HT hz1 hb9
        generalize numsT B (nums.take q) = P at HT hz2 ⊢
        have e32 := e_spB
        have hz4 : (P ++ spB).size ≤ 201 := by rw [ByteArray.size_append]; omega
        go_wp2_with (go_at_call 43; refine (HQ.out _).mono ?_; rintro e w3 ⟨rfl, hw3⟩)
        go_roundw
        case rel => exact ⟨q + 1, by omega, by go_num, by rw [HT.out], bcall HB.out (by have := HB.out.size; simpa using this) hw3⟩
        case measure => simp [intOf]; omega
      · have he : nums.take q = nums := List.take_of_length_le (by omega)
        rw [he]
        go_wp2_with fail
        go_ret
        refine ⟨?_, unbox HB.out⟩
        rw [HBB.out]; rfl

set_option maxRecDepth 4000 in
set_option maxHeartbeats 4000000 in
theorem l21Text_6 (id : Int) (key name : ByteArray) (nums : List Int) (a : Option Addr) (len cap : Nat) (w : World) (hr : IsRow .i64 w a len cap nums) (hi : 0 ≤ id ∧ id ≤ 9999) (hns : numsIn nums = true) (hl4 : nums.length ≤ 4) (hn : name.size ≤ 8) :
    Calls Tryz.prog 22 #[.agg #[.int .i64 6, .int .i64 id, .string key, .string name, .slice a len cap]] w fun x w' => x = .returned (.string (numsT ((entW[6]'(by decide)) ++ spB ++ itoB id) nums)) ∧ Below w.heap.size w w' := by
  obtain ⟨hz, hm⟩ := hr.len
  have HR : Hid (IsRow .i64 w a len cap nums) := hr
  clear hr hm
  have HW : Hid (∀ w, Calls Tryz.prog 19 #[] w fun e w' => e = .returned (.slice (some ⟨w.heap.size, 0, none⟩) 10 10) ∧ (∀ k (h : k < entW.length), w'.cell? ⟨w.heap.size, k, none⟩ = some (.string entW[k])) ∧ Below w.heap.size w w') := l21Words
  have HD : Hid (∀ w, Calls Tryz.prog 43 #[.int .i64 id] w fun e w' => e = .returned (.string (itoB id)) ∧ Below w.heap.size w w') := fun w => l1Dec id (by omega) (by omega) w
  have his := itoB_size id (by omega) (by omega)
  have hks : (entW[6]'(by decide)).size = 5 := rfl
  generalize hK : (entW[6]'(by decide)) = K at hks ⊢
  have HK : Hid (entW[6]'(by decide) = K) := hK
  clear hK
  go_enter Tryz.func22, Tryz.ntmps22
  go_wp2_with fail
  go_region_with (go_at_call 19; refine (HW.out _).mono ?_; rintro e w1 ⟨rfl, hc1, hw1⟩; have d1 : w1.cell? ⟨w.heap.size + 1, 6, none⟩ = some (.string K) := (by rw [← HK.out]; simpa using hc1 6 (by decide)); clear hc1; obtain ⟨hcx, hfx⟩ := bcell hw1)
  all_goals
    have hB1 : Below (w.heap.size + 1) (w.alloc (.cells #[.int .i64 6, .int .i64 id, .string key, .string name, .slice a len cap] 32)) w1 := bcall (Below.refl _ _).drew (by simp) hw1
    clear hw1 d1 hcx hfx
    obtain ⟨c0, c1, c2, c3, c4⟩ := box5 hB1
    have HB1 : Hid _ := hB1
    clear hB1
    have e32 := e_spB
    have hz5 := spB_size
    have hz6 : (K ++ spB).size ≤ 20 := by rw [ByteArray.size_append]; omega
    go_wp2_with (go_at_call 43; refine (HD.out _).mono ?_; rintro e w2 ⟨rfl, hw2⟩)
    have HBZ : Hid ((K ++ spB ++ itoB id).size ≤ 40) := by
      show (K ++ spB ++ itoB id).size ≤ 40
      first | omega | (simp only [ByteArray.size_append, spB_size]; omega)
    generalize hBB : K ++ spB ++ itoB id = B at HBZ ⊢
    have HBB : Hid _ := hBB
    clear hBB
    go_loopw [3, 4] (fun o i wr => ∃ k : Nat, k ≤ len ∧ i = .int .i64 k ∧ o = .string (numsT B (nums.take k)) ∧ Below (w.heap.size + 1) (w.alloc (.cells #[.int .i64 6, .int .i64 id, .string key, .string name, .slice a len cap] 32)) wr) (fun _ i _ => len - (intOf i).toNat)
    case atStart => exact ⟨0, Nat.zero_le _, rfl, rfl, bcall HB1.out (by have := HB1.out.size; simpa using this) hw2⟩
    case round =>
      clear c0 c1 c2 c3 c4
      obtain ⟨q, hq, rfl, rfl, hB⟩ := hrel
      obtain ⟨c0, c1, c2, c3, c4⟩ := box5 hB
      have HB : Hid _ := hB
      clear hB
      by_cases hlt : q < len
      · obtain ⟨b, off, rfl, h1, h2, hc⟩ := IsRow.at (HR.out.below (unbox HB.out)) hlt
        have hb9 := numsIn_at hns q (by omega)
        have HQ : Hid (∀ w, Calls Tryz.prog 43 #[.int .i64 (nums.getD q 0)] w fun e w' => e = .returned (.string (itoB (nums.getD q 0))) ∧ Below w.heap.size w w') := fun w => l1Dec _ (by omega) (by omega) w
        have HT : Hid (numsT B (nums.take (q + 1)) = numsT B (nums.take q) ++ spB ++ itoB (nums.getD q 0)) := by
          show _ = _
          rw [takeI_snoc nums q (by omega), numsT_snoc]
        have hz1 := itoB_size (nums.getD q 0) (by omega) (by omega)
        have hz2 : (numsT B (nums.take q)).size ≤ 200 := by
          have := numsT_size _ (numsIn_take hns q) B
          have h9 := HBZ.out
          have : (nums.take q).length ≤ 4 := by simp; omega
          omega
        have hz3 := spB_size
        generalize nums.getD q 0 = z at hc HQ HT hz1 hb9
        generalize numsT B (nums.take q) = P at HT hz2 ⊢
        have e32 := e_spB
        have hz4 : (P ++ spB).size ≤ 201 := by rw [ByteArray.size_append]; omega
        go_wp2_with (go_at_call 43; refine (HQ.out _).mono ?_; rintro e w3 ⟨rfl, hw3⟩)
        go_roundw
        case rel => exact ⟨q + 1, by omega, by go_num, by rw [HT.out], bcall HB.out (by have := HB.out.size; simpa using this) hw3⟩
        case measure => simp [intOf]; omega
      · have he : nums.take q = nums := List.take_of_length_le (by omega)
        rw [he]
        go_wp2_with fail
        go_ret
        refine ⟨?_, unbox HB.out⟩
        rw [HBB.out]; rfl

set_option maxRecDepth 4000 in
set_option maxHeartbeats 4000000 in
theorem l21Text_7 (id : Int) (key name : ByteArray) (nums : List Int) (a : Option Addr) (len cap : Nat) (w : World) (hr : IsRow .i64 w a len cap nums) (hi : 0 ≤ id ∧ id ≤ 9999) (hns : numsIn nums = true) (hl4 : nums.length ≤ 4) (hn : name.size ≤ 8) :
    Calls Tryz.prog 22 #[.agg #[.int .i64 7, .int .i64 id, .string key, .string name, .slice a len cap]] w fun x w' => x = .returned (.string (numsT ((entW[7]'(by decide)) ++ spB ++ name) nums)) ∧ Below w.heap.size w w' := by
  obtain ⟨hz, hm⟩ := hr.len
  have HR : Hid (IsRow .i64 w a len cap nums) := hr
  clear hr hm
  have HW : Hid (∀ w, Calls Tryz.prog 19 #[] w fun e w' => e = .returned (.slice (some ⟨w.heap.size, 0, none⟩) 10 10) ∧ (∀ k (h : k < entW.length), w'.cell? ⟨w.heap.size, k, none⟩ = some (.string entW[k])) ∧ Below w.heap.size w w') := l21Words
  have HD : Hid (∀ w, Calls Tryz.prog 43 #[.int .i64 id] w fun e w' => e = .returned (.string (itoB id)) ∧ Below w.heap.size w w') := fun w => l1Dec id (by omega) (by omega) w
  have his := itoB_size id (by omega) (by omega)
  have hks : (entW[7]'(by decide)).size = 6 := rfl
  generalize hK : (entW[7]'(by decide)) = K at hks ⊢
  have HK : Hid (entW[7]'(by decide) = K) := hK
  clear hK
  go_enter Tryz.func22, Tryz.ntmps22
  go_wp2_with fail
  go_region_with (go_at_call 19; refine (HW.out _).mono ?_; rintro e w1 ⟨rfl, hc1, hw1⟩; have d1 : w1.cell? ⟨w.heap.size + 1, 7, none⟩ = some (.string K) := (by rw [← HK.out]; simpa using hc1 7 (by decide)); clear hc1; obtain ⟨hcx, hfx⟩ := bcell hw1)
  all_goals
    have hB1 : Below (w.heap.size + 1) (w.alloc (.cells #[.int .i64 7, .int .i64 id, .string key, .string name, .slice a len cap] 32)) w1 := bcall (Below.refl _ _).drew (by simp) hw1
    clear hw1 d1 hcx hfx
    obtain ⟨c0, c1, c2, c3, c4⟩ := box5 hB1
    have HB1 : Hid _ := hB1
    clear hB1
    have e32 := e_spB
    have hz5 := spB_size
    have hz6 : (K ++ spB).size ≤ 20 := by rw [ByteArray.size_append]; omega
    go_wp2_with fail
    have HBZ : Hid ((K ++ spB ++ name).size ≤ 40) := by
      show (K ++ spB ++ name).size ≤ 40
      first | omega | (simp only [ByteArray.size_append, spB_size]; omega)
    generalize hBB : K ++ spB ++ name = B at HBZ ⊢
    have HBB : Hid _ := hBB
    clear hBB
    go_loopw [3, 4] (fun o i wr => ∃ k : Nat, k ≤ len ∧ i = .int .i64 k ∧ o = .string (numsT B (nums.take k)) ∧ Below (w.heap.size + 1) (w.alloc (.cells #[.int .i64 7, .int .i64 id, .string key, .string name, .slice a len cap] 32)) wr) (fun _ i _ => len - (intOf i).toNat)
    case atStart => exact ⟨0, Nat.zero_le _, rfl, rfl, HB1.out⟩
    case round =>
      clear c0 c1 c2 c3 c4
      obtain ⟨q, hq, rfl, rfl, hB⟩ := hrel
      obtain ⟨c0, c1, c2, c3, c4⟩ := box5 hB
      have HB : Hid _ := hB
      clear hB
      by_cases hlt : q < len
      · obtain ⟨b, off, rfl, h1, h2, hc⟩ := IsRow.at (HR.out.below (unbox HB.out)) hlt
        have hb9 := numsIn_at hns q (by omega)
        have HQ : Hid (∀ w, Calls Tryz.prog 43 #[.int .i64 (nums.getD q 0)] w fun e w' => e = .returned (.string (itoB (nums.getD q 0))) ∧ Below w.heap.size w w') := fun w => l1Dec _ (by omega) (by omega) w
        have HT : Hid (numsT B (nums.take (q + 1)) = numsT B (nums.take q) ++ spB ++ itoB (nums.getD q 0)) := by
          show _ = _
          rw [takeI_snoc nums q (by omega), numsT_snoc]
        have hz1 := itoB_size (nums.getD q 0) (by omega) (by omega)
        have hz2 : (numsT B (nums.take q)).size ≤ 200 := by
          have := numsT_size _ (numsIn_take hns q) B
          have h9 := HBZ.out
          have : (nums.take q).length ≤ 4 := by simp; omega
          omega
        have hz3 := spB_size
        generalize nums.getD q 0 = z at hc HQ HT hz1 hb9
        generalize numsT B (nums.take q) = P at HT hz2 ⊢
        have e32 := e_spB
        have hz4 : (P ++ spB).size ≤ 201 := by rw [ByteArray.size_append]; omega
        go_wp2_with (go_at_call 43; refine (HQ.out _).mono ?_; rintro e w3 ⟨rfl, hw3⟩)
        go_roundw
        case rel => exact ⟨q + 1, by omega, by go_num, by rw [HT.out], bcall HB.out (by have := HB.out.size; simpa using this) hw3⟩
        case measure => simp [intOf]; omega
      · have he : nums.take q = nums := List.take_of_length_le (by omega)
        rw [he]
        go_wp2_with fail
        go_ret
        refine ⟨?_, unbox HB.out⟩
        rw [HBB.out]; rfl

set_option maxRecDepth 4000 in
set_option maxHeartbeats 4000000 in
theorem l21Text_8 (id : Int) (key name : ByteArray) (nums : List Int) (a : Option Addr) (len cap : Nat) (w : World) (hr : IsRow .i64 w a len cap nums) (hi : 0 ≤ id ∧ id ≤ 9999) (hns : numsIn nums = true) (hl4 : nums.length ≤ 4) (hn : name.size ≤ 8) :
    Calls Tryz.prog 22 #[.agg #[.int .i64 8, .int .i64 id, .string key, .string name, .slice a len cap]] w fun x w' => x = .returned (.string (numsT ((entW[8]'(by decide))) nums)) ∧ Below w.heap.size w w' := by
  obtain ⟨hz, hm⟩ := hr.len
  have HR : Hid (IsRow .i64 w a len cap nums) := hr
  clear hr hm
  have HW : Hid (∀ w, Calls Tryz.prog 19 #[] w fun e w' => e = .returned (.slice (some ⟨w.heap.size, 0, none⟩) 10 10) ∧ (∀ k (h : k < entW.length), w'.cell? ⟨w.heap.size, k, none⟩ = some (.string entW[k])) ∧ Below w.heap.size w w') := l21Words
  have HD : Hid (∀ w, Calls Tryz.prog 43 #[.int .i64 id] w fun e w' => e = .returned (.string (itoB id)) ∧ Below w.heap.size w w') := fun w => l1Dec id (by omega) (by omega) w
  have his := itoB_size id (by omega) (by omega)
  have hks : (entW[8]'(by decide)).size = 6 := rfl
  generalize hK : (entW[8]'(by decide)) = K at hks ⊢
  have HK : Hid (entW[8]'(by decide) = K) := hK
  clear hK
  go_enter Tryz.func22, Tryz.ntmps22
  go_wp2_with fail
  go_region_with (go_at_call 19; refine (HW.out _).mono ?_; rintro e w1 ⟨rfl, hc1, hw1⟩; have d1 : w1.cell? ⟨w.heap.size + 1, 8, none⟩ = some (.string K) := (by rw [← HK.out]; simpa using hc1 8 (by decide)); clear hc1; obtain ⟨hcx, hfx⟩ := bcell hw1)
  all_goals
    have hB1 : Below (w.heap.size + 1) (w.alloc (.cells #[.int .i64 8, .int .i64 id, .string key, .string name, .slice a len cap] 32)) w1 := bcall (Below.refl _ _).drew (by simp) hw1
    clear hw1 d1 hcx hfx
    obtain ⟨c0, c1, c2, c3, c4⟩ := box5 hB1
    have HB1 : Hid _ := hB1
    clear hB1
    go_wp2_with fail
    have HBZ : Hid ((K).size ≤ 40) := by
      show (K).size ≤ 40
      first | omega | (simp only [ByteArray.size_append, spB_size]; omega)
    generalize hBB : K = B at HBZ ⊢
    have HBB : Hid _ := hBB
    clear hBB
    go_loopw [3, 4] (fun o i wr => ∃ k : Nat, k ≤ len ∧ i = .int .i64 k ∧ o = .string (numsT B (nums.take k)) ∧ Below (w.heap.size + 1) (w.alloc (.cells #[.int .i64 8, .int .i64 id, .string key, .string name, .slice a len cap] 32)) wr) (fun _ i _ => len - (intOf i).toNat)
    case atStart => exact ⟨0, Nat.zero_le _, rfl, rfl, HB1.out⟩
    case round =>
      clear c0 c1 c2 c3 c4
      obtain ⟨q, hq, rfl, rfl, hB⟩ := hrel
      obtain ⟨c0, c1, c2, c3, c4⟩ := box5 hB
      have HB : Hid _ := hB
      clear hB
      by_cases hlt : q < len
      · obtain ⟨b, off, rfl, h1, h2, hc⟩ := IsRow.at (HR.out.below (unbox HB.out)) hlt
        have hb9 := numsIn_at hns q (by omega)
        have HQ : Hid (∀ w, Calls Tryz.prog 43 #[.int .i64 (nums.getD q 0)] w fun e w' => e = .returned (.string (itoB (nums.getD q 0))) ∧ Below w.heap.size w w') := fun w => l1Dec _ (by omega) (by omega) w
        have HT : Hid (numsT B (nums.take (q + 1)) = numsT B (nums.take q) ++ spB ++ itoB (nums.getD q 0)) := by
          show _ = _
          rw [takeI_snoc nums q (by omega), numsT_snoc]
        have hz1 := itoB_size (nums.getD q 0) (by omega) (by omega)
        have hz2 : (numsT B (nums.take q)).size ≤ 200 := by
          have := numsT_size _ (numsIn_take hns q) B
          have h9 := HBZ.out
          have : (nums.take q).length ≤ 4 := by simp; omega
          omega
        have hz3 := spB_size
        generalize nums.getD q 0 = z at hc HQ HT hz1 hb9
        generalize numsT B (nums.take q) = P at HT hz2 ⊢
        have e32 := e_spB
        have hz4 : (P ++ spB).size ≤ 201 := by rw [ByteArray.size_append]; omega
        go_wp2_with (go_at_call 43; refine (HQ.out _).mono ?_; rintro e w3 ⟨rfl, hw3⟩)
        go_roundw
        case rel => exact ⟨q + 1, by omega, by go_num, by rw [HT.out], bcall HB.out (by have := HB.out.size; simpa using this) hw3⟩
        case measure => simp [intOf]; omega
      · have he : nums.take q = nums := List.take_of_length_le (by omega)
        rw [he]
        go_wp2_with fail
        go_ret
        refine ⟨?_, unbox HB.out⟩
        rw [HBB.out]; rfl

set_option maxRecDepth 4000 in
set_option maxHeartbeats 4000000 in
theorem l21Text_9 (id : Int) (key name : ByteArray) (nums : List Int) (a : Option Addr) (len cap : Nat) (w : World) (hr : IsRow .i64 w a len cap nums) (hi : 0 ≤ id ∧ id ≤ 9999) (hns : numsIn nums = true) (hl4 : nums.length ≤ 4) (hn : name.size ≤ 8) :
    Calls Tryz.prog 22 #[.agg #[.int .i64 9, .int .i64 id, .string key, .string name, .slice a len cap]] w fun x w' => x = .returned (.string (numsT ((entW[9]'(by decide)) ++ spB ++ itoB id) nums)) ∧ Below w.heap.size w w' := by
  obtain ⟨hz, hm⟩ := hr.len
  have HR : Hid (IsRow .i64 w a len cap nums) := hr
  clear hr hm
  have HW : Hid (∀ w, Calls Tryz.prog 19 #[] w fun e w' => e = .returned (.slice (some ⟨w.heap.size, 0, none⟩) 10 10) ∧ (∀ k (h : k < entW.length), w'.cell? ⟨w.heap.size, k, none⟩ = some (.string entW[k])) ∧ Below w.heap.size w w') := l21Words
  have HD : Hid (∀ w, Calls Tryz.prog 43 #[.int .i64 id] w fun e w' => e = .returned (.string (itoB id)) ∧ Below w.heap.size w w') := fun w => l1Dec id (by omega) (by omega) w
  have his := itoB_size id (by omega) (by omega)
  have hks : (entW[9]'(by decide)).size = 3 := rfl
  generalize hK : (entW[9]'(by decide)) = K at hks ⊢
  have HK : Hid (entW[9]'(by decide) = K) := hK
  clear hK
  go_enter Tryz.func22, Tryz.ntmps22
  go_wp2_with fail
  go_region_with (go_at_call 19; refine (HW.out _).mono ?_; rintro e w1 ⟨rfl, hc1, hw1⟩; have d1 : w1.cell? ⟨w.heap.size + 1, 9, none⟩ = some (.string K) := (by rw [← HK.out]; simpa using hc1 9 (by decide)); clear hc1; obtain ⟨hcx, hfx⟩ := bcell hw1)
  all_goals
    have hB1 : Below (w.heap.size + 1) (w.alloc (.cells #[.int .i64 9, .int .i64 id, .string key, .string name, .slice a len cap] 32)) w1 := bcall (Below.refl _ _).drew (by simp) hw1
    clear hw1 d1 hcx hfx
    obtain ⟨c0, c1, c2, c3, c4⟩ := box5 hB1
    have HB1 : Hid _ := hB1
    clear hB1
    have e32 := e_spB
    have hz5 := spB_size
    have hz6 : (K ++ spB).size ≤ 20 := by rw [ByteArray.size_append]; omega
    go_wp2_with (go_at_call 43; refine (HD.out _).mono ?_; rintro e w2 ⟨rfl, hw2⟩)
    have HBZ : Hid ((K ++ spB ++ itoB id).size ≤ 40) := by
      show (K ++ spB ++ itoB id).size ≤ 40
      first | omega | (simp only [ByteArray.size_append, spB_size]; omega)
    generalize hBB : K ++ spB ++ itoB id = B at HBZ ⊢
    have HBB : Hid _ := hBB
    clear hBB
    go_loopw [3, 4] (fun o i wr => ∃ k : Nat, k ≤ len ∧ i = .int .i64 k ∧ o = .string (numsT B (nums.take k)) ∧ Below (w.heap.size + 1) (w.alloc (.cells #[.int .i64 9, .int .i64 id, .string key, .string name, .slice a len cap] 32)) wr) (fun _ i _ => len - (intOf i).toNat)
    case atStart => exact ⟨0, Nat.zero_le _, rfl, rfl, bcall HB1.out (by have := HB1.out.size; simpa using this) hw2⟩
    case round =>
      clear c0 c1 c2 c3 c4
      obtain ⟨q, hq, rfl, rfl, hB⟩ := hrel
      obtain ⟨c0, c1, c2, c3, c4⟩ := box5 hB
      have HB : Hid _ := hB
      clear hB
      by_cases hlt : q < len
      · obtain ⟨b, off, rfl, h1, h2, hc⟩ := IsRow.at (HR.out.below (unbox HB.out)) hlt
        have hb9 := numsIn_at hns q (by omega)
        have HQ : Hid (∀ w, Calls Tryz.prog 43 #[.int .i64 (nums.getD q 0)] w fun e w' => e = .returned (.string (itoB (nums.getD q 0))) ∧ Below w.heap.size w w') := fun w => l1Dec _ (by omega) (by omega) w
        have HT : Hid (numsT B (nums.take (q + 1)) = numsT B (nums.take q) ++ spB ++ itoB (nums.getD q 0)) := by
          show _ = _
          rw [takeI_snoc nums q (by omega), numsT_snoc]
        have hz1 := itoB_size (nums.getD q 0) (by omega) (by omega)
        have hz2 : (numsT B (nums.take q)).size ≤ 200 := by
          have := numsT_size _ (numsIn_take hns q) B
          have h9 := HBZ.out
          have : (nums.take q).length ≤ 4 := by simp; omega
          omega
        have hz3 := spB_size
        generalize nums.getD q 0 = z at hc HQ HT hz1 hb9
        generalize numsT B (nums.take q) = P at HT hz2 ⊢
        have e32 := e_spB
        have hz4 : (P ++ spB).size ≤ 201 := by rw [ByteArray.size_append]; omega
        go_wp2_with (go_at_call 43; refine (HQ.out _).mono ?_; rintro e w3 ⟨rfl, hw3⟩)
        go_roundw
        case rel => exact ⟨q + 1, by omega, by go_num, by rw [HT.out], bcall HB.out (by have := HB.out.size; simpa using this) hw3⟩
        case measure => simp [intOf]; omega
      · have he : nums.take q = nums := List.take_of_length_le (by omega)
        rw [he]
        go_wp2_with fail
        go_ret
        refine ⟨?_, unbox HB.out⟩
        rw [HBB.out]; rfl
end Go.Proofs.YtbngjpnbjknliaaGreatDoor
