/- The model's text of an entry of a history: an ask; all. -/
import Derived.Test.YtmfibpfnbhhoaaaDoorHW4
namespace Go.Proofs.YtmfibpfnbhhoaaaDoor
set_option linter.unusedVariables false
set_option linter.unusedSimpArgs false
open Go.RowKit Go

/-- A name of an ask, as it is written. -/
def nmT (s : ByteArray) : ByteArray := if s.toList = [] then ⟨#[45]⟩ else s
theorem nmT_size (s : ByteArray) (h : s.size ≤ 8) : (nmT s).size ≤ 8 := by
  unfold nmT; split
  · show 1 ≤ 8; omega
  · exact h

set_option maxRecDepth 4000 in
set_option maxHeartbeats 4000000 in
theorem l21Text_3 (id : Int) (key name : ByteArray) (nums : List Int) (a : Option Addr) (len cap : Nat) (w : World) (hr : IsRow .i64 w a len cap nums) (hi : 0 ≤ id ∧ id ≤ 9999) (hns : numsIn nums = true) (hl4 : nums.length ≤ 4) (hn : name.size ≤ 8) (hkz : key.size ≤ 24) :
    Calls Tryd.prog 11 #[.agg #[.int .i64 3, .int .i64 id, .string key, .string name, .slice a len cap]] w fun x w' => x = .returned (.string (numsT ((entW[3]'(by decide)) ++ spB ++ itoB id ++ spB ++ key ++ spB ++ nmT name) nums)) ∧ Below w.heap.size w w' := by
  obtain ⟨hz, hm⟩ := hr.len
  have HR : Hid (IsRow .i64 w a len cap nums) := hr
  clear hr hm
  have HW : Hid (∀ w, Calls Tryd.prog 23 #[] w fun e w' => e = .returned (.slice (some ⟨w.heap.size, 0, none⟩) 10 10) ∧ (∀ k (h : k < entW.length), w'.cell? ⟨w.heap.size, k, none⟩ = some (.string entW[k])) ∧ Below w.heap.size w w') := l21Words
  have HD : Hid (∀ w, Calls Tryd.prog 24 #[.int .i64 id] w fun e w' => e = .returned (.string (itoB id)) ∧ Below w.heap.size w w') := fun w => l1Dec id (by omega) (by omega) w
  have his := itoB_size id (by omega) (by omega)
  have hks : (entW[3]'(by decide)).size = 3 := rfl
  generalize hK : (entW[3]'(by decide)) = K at hks ⊢
  have HK : Hid (entW[3]'(by decide) = K) := hK
  clear hK
  go_enter Tryd.func11, Tryd.ntmps11
  go_wp2_with fail
  go_region_with (go_at_call 23; refine (HW.out _).mono ?_; rintro e w1 ⟨rfl, hc1, hw1⟩; have d1 : w1.cell? ⟨w.heap.size + 1, 3, none⟩ = some (.string K) := (by rw [← HK.out]; simpa using hc1 3 (by decide)); clear hc1; obtain ⟨hcx, hfx⟩ := bcell hw1)
  all_goals
    have hB1 : Below (w.heap.size + 1) (w.alloc (.cells #[.int .i64 3, .int .i64 id, .string key, .string name, .slice a len cap] 35)) w1 := bcall (Below.refl _ _).drew (by simp) hw1
    clear hw1 d1 hcx hfx
    obtain ⟨c0, c1, c2, c3, c4⟩ := box5 hB1
    have HB1 : Hid _ := hB1
    clear hB1
    have e32 := e_spB
    have hz5 := spB_size
    have hz6 : (K ++ spB).size ≤ 20 := by rw [ByteArray.size_append]; omega
    have hz7 : (K ++ spB ++ itoB id).size ≤ 41 := by rw [ByteArray.size_append]; omega
    have hz8 : (K ++ spB ++ itoB id ++ spB).size ≤ 42 := by rw [ByteArray.size_append]; omega
    have hz9 : (K ++ spB ++ itoB id ++ spB ++ key).size ≤ 66 := by rw [ByteArray.size_append]; omega
    have hz10 : (K ++ spB ++ itoB id ++ spB ++ key ++ spB).size ≤ 67 := by rw [ByteArray.size_append]; omega
    have hz11 : (⟨#[45]⟩ : ByteArray).size = 1 := rfl
    have hlt1 : w.heap.size < w1.heap.size := by have := HB1.out.size; simp at this; omega
    go_wp2_with fail
    go_region_with (go_at_call 24; refine (HD.out _).mono ?_; rintro e w2 ⟨rfl, hw2⟩; have i2 := (hw2.cell (p := ⟨w.heap.size, 2, none⟩) hlt1).trans c2; have i3 := (hw2.cell (p := ⟨w.heap.size, 3, none⟩) hlt1).trans c3; have i4 := (hw2.cell (p := ⟨w.heap.size, 4, none⟩) hlt1).trans c4)
    all_goals
      have HB2 : Hid _ := bcall HB1.out.drew (by have := HB1.out.size; simpa using this) hw2
      have hPB : (K ++ spB ++ itoB id ++ spB ++ key ++ spB).size ≤ 67 := hz10
      clear hz6 hz7 hz8 hz9 hz10 hw2 c0 c1 c2 c3 c4 i2
      generalize hPP : K ++ spB ++ itoB id ++ spB ++ key ++ spB = PP at hPB ⊢
      have HPP : Hid _ := hPP
      clear hPP
      by_cases hnm : name.toList = []
      · have HNM : Hid (nmT name = ⟨#[45]⟩) := if_pos hnm
        go_wp2_with fail
        have HBZ : Hid ((PP ++ ⟨#[45]⟩).size ≤ 90) := by
          show (PP ++ ⟨#[45]⟩).size ≤ 90
          first | omega | (simp only [ByteArray.size_append, spB_size]; omega)
        generalize hBB : PP ++ ⟨#[45]⟩ = B at HBZ ⊢
        have HBB : Hid _ := hBB
        clear hBB
        go_loopw [3, 4] (fun o i wr => ∃ k : Nat, k ≤ len ∧ i = .int .i64 k ∧ o = .string (numsT B (nums.take k)) ∧ Below (w.heap.size + 1) (w.alloc (.cells #[.int .i64 3, .int .i64 id, .string key, .string name, .slice a len cap] 35)) wr) (fun _ i _ => len - (intOf i).toNat)
        case atStart => exact ⟨0, Nat.zero_le _, rfl, rfl, HB2.out⟩
        case round =>
          clear i3 i4
          obtain ⟨q, hq, rfl, rfl, hB⟩ := hrel
          obtain ⟨c0, c1, c2, c3, c4⟩ := box5 hB
          have HB : Hid _ := hB
          clear hB
          by_cases hlt : q < len
          · obtain ⟨b, off, rfl, h1, h2, hc⟩ := IsRow.at (HR.out.below (unbox HB.out)) hlt
            have hb9 := numsIn_at hns q (by omega)
            have HQ : Hid (∀ w, Calls Tryd.prog 24 #[.int .i64 (nums.getD q 0)] w fun e w' => e = .returned (.string (itoB (nums.getD q 0))) ∧ Below w.heap.size w w') := fun w => l1Dec _ (by omega) (by omega) w
            have HT : Hid (numsT B (nums.take (q + 1)) = numsT B (nums.take q) ++ spB ++ itoB (nums.getD q 0)) := by
              show _ = _
              rw [takeI_snoc nums q (by omega), numsT_snoc]
            have hz1 := itoB_size (nums.getD q 0) (by omega) (by omega)
            have hz2 : (numsT B (nums.take q)).size ≤ 200 := by
              have := numsT_size _ (numsIn_take hns q) B
              have h9 := HBZ.out
              have : (nums.take q).length ≤ 4 := by simp; omega
              omega
            have hz3 := spB_size
            generalize nums.getD q 0 = z at hc HQ HT hz1 hb9
            generalize numsT B (nums.take q) = P at HT hz2 ⊢
            have e32 := e_spB
            have hz4 : (P ++ spB).size ≤ 201 := by rw [ByteArray.size_append]; omega
            go_wp2_with (go_at_call 24; refine (HQ.out _).mono ?_; rintro e w3 ⟨rfl, hw3⟩)
            go_roundw
            case rel => exact ⟨q + 1, by omega, by go_num, by rw [HT.out], bcall HB.out (by have := HB.out.size; simpa using this) hw3⟩
            case measure => simp [intOf]; omega
          · have he : nums.take q = nums := List.take_of_length_le (by omega)
            rw [he]
            go_wp2_with fail
            go_ret
            refine ⟨?_, unbox HB.out⟩
            rw [HPP.out, HNM.out, HBB.out]; rfl
      · have HNM : Hid (nmT name = name) := if_neg hnm
        have hne : name.toList.isEmpty = false := by simpa using hnm
        clear hnm
        go_wp2_with fail
        have HBZ : Hid ((PP ++ name).size ≤ 90) := by
          show (PP ++ name).size ≤ 90
          first | omega | (simp only [ByteArray.size_append, spB_size]; omega)
        generalize hBB : PP ++ name = B at HBZ ⊢
        have HBB : Hid _ := hBB
        clear hBB
        go_loopw [3, 4] (fun o i wr => ∃ k : Nat, k ≤ len ∧ i = .int .i64 k ∧ o = .string (numsT B (nums.take k)) ∧ Below (w.heap.size + 1) (w.alloc (.cells #[.int .i64 3, .int .i64 id, .string key, .string name, .slice a len cap] 35)) wr) (fun _ i _ => len - (intOf i).toNat)
        case atStart => exact ⟨0, Nat.zero_le _, rfl, rfl, HB2.out⟩
        case round =>
          clear i3 i4
          obtain ⟨q, hq, rfl, rfl, hB⟩ := hrel
          obtain ⟨c0, c1, c2, c3, c4⟩ := box5 hB
          have HB : Hid _ := hB
          clear hB
          by_cases hlt : q < len
          · obtain ⟨b, off, rfl, h1, h2, hc⟩ := IsRow.at (HR.out.below (unbox HB.out)) hlt
            have hb9 := numsIn_at hns q (by omega)
            have HQ : Hid (∀ w, Calls Tryd.prog 24 #[.int .i64 (nums.getD q 0)] w fun e w' => e = .returned (.string (itoB (nums.getD q 0))) ∧ Below w.heap.size w w') := fun w => l1Dec _ (by omega) (by omega) w
            have HT : Hid (numsT B (nums.take (q + 1)) = numsT B (nums.take q) ++ spB ++ itoB (nums.getD q 0)) := by
              show _ = _
              rw [takeI_snoc nums q (by omega), numsT_snoc]
            have hz1 := itoB_size (nums.getD q 0) (by omega) (by omega)
            have hz2 : (numsT B (nums.take q)).size ≤ 200 := by
              have := numsT_size _ (numsIn_take hns q) B
              have h9 := HBZ.out
              have : (nums.take q).length ≤ 4 := by simp; omega
              omega
            have hz3 := spB_size
            generalize nums.getD q 0 = z at hc HQ HT hz1 hb9
            generalize numsT B (nums.take q) = P at HT hz2 ⊢
            have e32 := e_spB
            have hz4 : (P ++ spB).size ≤ 201 := by rw [ByteArray.size_append]; omega
            go_wp2_with (go_at_call 24; refine (HQ.out _).mono ?_; rintro e w3 ⟨rfl, hw3⟩)
            go_roundw
            case rel => exact ⟨q + 1, by omega, by go_num, by rw [HT.out], bcall HB.out (by have := HB.out.size; simpa using this) hw3⟩
            case measure => simp [intOf]; omega
          · have he : nums.take q = nums := List.take_of_length_le (by omega)
            rw [he]
            go_wp2_with fail
            go_ret
            refine ⟨?_, unbox HB.out⟩
            rw [HPP.out, HNM.out, HBB.out]; rfl

end Go.Proofs.YtmfibpfnbhhoaaaDoor
