/- The model's text of a rule. -/
import Derived.Test.YtdanfekodmncmaaDoorCW1
import Derived.Test.YtdanfekodmncmaaDoorCA1
import Derived.Lib.QuietBelow
import Derived.Deep.QuietTactic
namespace Go.Proofs.YtdanfekodmncmaaDoor
set_option linter.unusedVariables false
set_option linter.unusedSimpArgs false
open Go.RowKit Go Go.Sort

def w1B : ByteArray := ⟨#[101, 118, 101, 114, 121, 32]⟩
def w2B : ByteArray := ⟨#[32, 97, 116, 32]⟩
def w3B : ByteArray := ⟨#[32, 102, 114, 111, 109, 32]⟩
def w4B : ByteArray := ⟨#[32, 116, 111, 32]⟩
def w5B : ByteArray := ⟨#[32, 98, 117, 116]⟩
def spB : ByteArray := ⟨#[32]⟩
theorem e_spB : (⟨#[32]⟩ : ByteArray) = spB := rfl
theorem spB_size : spB.size = 1 := rfl
/-- Numbers behind a text, a space ahead of each. -/
def numsT (b : ByteArray) (l : List Int) : ByteArray := l.foldl (fun o n => o ++ spB ++ itoB n) b
theorem numsT_snoc (b : ByteArray) (l : List Int) (n : Int) : numsT b (l ++ [n]) = numsT b l ++ spB ++ itoB n := by simp [numsT]
def Fits (n : Int) : Prop := -9223372036854775807 ≤ n ∧ n ≤ 9223372036854775807
theorem numsT_size (l : List Int) (h : ∀ n ∈ l, Fits n) (b : ByteArray) : (numsT b l).size ≤ b.size + 22 * l.length := by
  induction l generalizing b with
  | nil => simp [numsT]
  | cons n l ih =>
    have h1 := ih (fun x hx => h x (List.mem_cons_of_mem _ hx)) (b ++ spB ++ itoB n)
    have h0 : Fits n := h n List.mem_cons_self
    have h2 := itoB_size n (by have := h0.1; omega) h0.2
    have e : numsT b (n :: l) = numsT (b ++ spB ++ itoB n) l := rfl
    rw [e]
    simp only [ByteArray.size_append, spB_size, List.length_cons] at h1 ⊢
    omega
def headT (r : Rul) : ByteArray := w1B ++ itoB r.ev ++ w2B ++ itoB r.at_ ++ w3B ++ itoB r.fr ++ w4B ++ itoB r.to_
/-- A rule's text, with no newline. -/
def rulT (r : Rul) : ByteArray := numsT (if r.but = [] then headT r else headT r ++ w5B) r.but
theorem rule_fits {r : Rul} (h : RuleOk r) : ∀ i, i < r.but.length → Fits (r.but.getD i 0) := fun i hi => ⟨by have := (h.2.2.2.2.2 i hi).1; omega, by have := (h.2.2.2.2.2 i hi).2.1; omega⟩
theorem fits_all {l : List Int} (h : ∀ i, i < l.length → Fits (l.getD i 0)) : ∀ n ∈ l, Fits n := fun n hn => by
  obtain ⟨i, hi, rfl⟩ := List.mem_iff_getElem.mp hn
  have := h i hi
  rwa [getD_at l i hi] at this

set_option maxRecDepth 4000 in
set_option maxHeartbeats 8000000 in
theorem l41Text (r : Rul) (a : Option Addr) (len cap : Nat) (w : World) (hr : IsRow .i64 w a len cap r.but) (hok : RuleOk r) :
    Calls Tryd.prog 34 #[.agg #[.int .i64 r.ev, .int .i64 r.at_, .int .i64 r.fr, .int .i64 r.to_, .slice a len cap]] w fun x w' => x = .returned (.string (rulT r)) ∧ Below w.heap.size w w' := by
  have HF : Hid (∀ i, i < r.but.length → Fits (r.but.getD i 0)) := rule_fits hok
  obtain ⟨hz, hm⟩ := hr.len
  have HR : Hid (IsRow .i64 w a len cap r.but) := hr
  clear hr hm
  have HD : Hid (∀ n : Int, Fits n → ∀ w, Calls Tryd.prog 53 #[.int .i64 n] w fun e w' => e = .returned (.string (itoB n)) ∧ Below w.heap.size w w') := fun n h w => l41Dec n h.1 h.2 w
  obtain ⟨⟨e1, e2⟩, ⟨a1, a2⟩, ⟨f1, f2⟩, ⟨t1, t2⟩, hb8, _⟩ := hok
  unfold rulT headT
  obtain ⟨ev, at_, fr, to_, but⟩ := r
  dsimp only at *
  generalize hT : numsT (if but = [] then w1B ++ itoB ev ++ w2B ++ itoB at_ ++ w3B ++ itoB fr ++ w4B ++ itoB to_ else w1B ++ itoB ev ++ w2B ++ itoB at_ ++ w3B ++ itoB fr ++ w4B ++ itoB to_ ++ w5B) but = T
  have s1 := itoB_size ev (by omega) (by omega)
  have s2 := itoB_size at_ (by omega) (by omega)
  have s3 := itoB_size fr (by omega) (by omega)
  have s4 := itoB_size to_ (by omega) (by omega)
  have g1 : Fits ev := ⟨by omega, by omega⟩
  have g2 : Fits at_ := ⟨by omega, by omega⟩
  have g3 : Fits fr := ⟨by omega, by omega⟩
  have g4 : Fits to_ := ⟨by omega, by omega⟩
  go_enter Tryd.func34, Tryd.ntmps34
  go_wp2_with fail
  obtain ⟨c0, c1, c2, c3, c4⟩ := box5 (Below.refl (w.heap.size + 1) (w.alloc (.cells #[.int .i64 ev, .int .i64 at_, .int .i64 fr, .int .i64 to_, .slice a len cap] 40)))
  have k0 := cell_regrown c0
  have k1 := cell_regrown c1
  have k2 := cell_regrown c2
  have k3 := cell_regrown c3
  have q : ∀ n : Int, Fits n → ∀ d os, Calls Tryd.prog 53 #[.int .i64 n] (grow (redrawn (w.alloc (.cells #[.int .i64 ev, .int .i64 at_, .int .i64 fr, .int .i64 to_, .slice a len cap] 40)) d) os) fun e w'' => e = .returned (.string (itoB n)) ∧ ∃ p : Regrown, w'' = grow (redrawn (w.alloc (.cells #[.int .i64 ev, .int .i64 at_, .int .i64 fr, .int .i64 to_, .slice a len cap] 40)) p.d) p.os := fun n h d os => Calls.regrown_of (HD.out n h _)
  have n1 : ¬ 9223372036854775807 < 6 + (itoB ev).size := by omega
  have n2 : ¬ 9223372036854775807 < 6 + (itoB ev).size + 4 := by omega
  have n3 : ¬ 9223372036854775807 < 6 + (itoB ev).size + 4 + (itoB at_).size := by omega
  have n4 : ¬ 9223372036854775807 < 6 + (itoB ev).size + 4 + (itoB at_).size + 6 := by omega
  have n5 : ¬ 9223372036854775807 < 6 + (itoB ev).size + 4 + (itoB at_).size + 6 + (itoB fr).size := by omega
  have n6 : ¬ 9223372036854775807 < 6 + (itoB ev).size + 4 + (itoB at_).size + 6 + (itoB fr).size + 4 := by omega
  have n7 : ¬ 9223372036854775807 < 6 + (itoB ev).size + 4 + (itoB at_).size + 6 + (itoB fr).size + 4 + (itoB to_).size := by omega
  refine wp_region_quiet_below (by kernel_rfl) (by kernel_rfl) ?_
  repeat (quiet_step (exact q _ (by assumption) _ _))
  refine wpQuiet_nil ?_
  rintro _ ⟨⟨dq, osq⟩, rfl⟩
  have hB0 := below_regrown (w.alloc (.cells #[.int .i64 ev, .int .i64 at_, .int .i64 fr, .int .i64 to_, .slice a len cap] 40)) dq osq
  generalize hV : grow (redrawn (w.alloc (.cells #[.int .i64 ev, .int .i64 at_, .int .i64 fr, .int .i64 to_, .slice a len cap] 40)) dq) osq = V at hB0 ⊢
  clear hV k0 k1 k2 k3 q c0 c1 c2 c3 c4
  have hB1 : Below (w.heap.size + 1) (w.alloc (.cells #[.int .i64 ev, .int .i64 at_, .int .i64 fr, .int .i64 to_, .slice a len cap] 40)) V := by simpa using hB0
  clear hB0
  obtain ⟨c0, c1, c2, c3, c4⟩ := box5 hB1
  have HB1 : Hid _ := hB1
  clear hB1
  have n8 : (w1B ++ itoB ev ++ w2B ++ itoB at_ ++ w3B ++ itoB fr ++ w4B ++ itoB to_).size ≤ 104 := by
    have z1 : w1B.size = 6 := rfl
    have z2 : w2B.size = 4 := rfl
    have z3 : w3B.size = 6 := rfl
    have z4 : w4B.size = 4 := rfl
    simp only [ByteArray.size_append]; omega
  unfold w1B w2B w3B w4B at n8 hT
  generalize hH : (⟨#[101, 118, 101, 114, 121, 32]⟩ : ByteArray) ++ itoB ev ++ ⟨#[32, 97, 116, 32]⟩ ++ itoB at_ ++ ⟨#[32, 102, 114, 111, 109, 32]⟩ ++ itoB fr ++ ⟨#[32, 116, 111, 32]⟩ ++ itoB to_ = H at n8 hT ⊢
  clear n1 n2 n3 n4 n5 n6 n7 hH s1 s2 s3 s4 g1 g2 g3 g4
  have z5 : w5B.size = 4 := rfl
  have y5 : (⟨#[32, 98, 117, 116]⟩ : ByteArray) = w5B := rfl
  by_cases h0 : 0 < len
  · have hne : but ≠ [] := fun h => by subst h; simp at hz; omega
    have n9 : (H ++ w5B).size ≤ 108 := by rw [ByteArray.size_append]; omega
    rw [if_neg hne] at hT
    have HI : Hid _ := hT
    clear hne hT
    go_wp2_with fail
    go_loopw [3, 4] (fun o i wr => ∃ k : Nat, k ≤ len ∧ i = .int .i64 k ∧ o = .string (numsT (H ++ w5B) (but.take k)) ∧ Below (w.heap.size + 1) (w.alloc (.cells #[.int .i64 ev, .int .i64 at_, .int .i64 fr, .int .i64 to_, .slice a len cap] 40)) wr) (fun _ i _ => len - (intOf i).toNat)
    case atStart => exact ⟨0, Nat.zero_le _, rfl, rfl, HB1.out⟩
    case round =>
      clear c0 c1 c2 c3 c4
      obtain ⟨q, hq, rfl, rfl, hB⟩ := hrel
      obtain ⟨c0, c1, c2, c3, c4⟩ := box5 hB
      have HB : Hid _ := hB
      clear hB
      by_cases hlt : q < len
      · obtain ⟨b, off, rfl, h1, h2, hc⟩ := IsRow.at (HR.out.below (unbox HB.out)) hlt
        have hf := HF.out q (by omega)
        have HQ : Hid (∀ w, Calls Tryd.prog 53 #[.int .i64 (but.getD q 0)] w fun e w' => e = .returned (.string (itoB (but.getD q 0))) ∧ Below w.heap.size w w') := fun w => HD.out _ hf w
        have HT : Hid (numsT (H ++ w5B) (but.take (q + 1)) = numsT (H ++ w5B) (but.take q) ++ spB ++ itoB (but.getD q 0)) := by
          show _ = _
          rw [takeI_snoc but q (by omega), numsT_snoc]
        have hz1 := itoB_size (but.getD q 0) (by have := hf.1; omega) hf.2
        have hz2 : (numsT (H ++ w5B) (but.take q)).size ≤ 400 := by
          have := numsT_size (but.take q) (fun n hn => fits_all HF.out n (List.mem_of_mem_take hn)) (H ++ w5B)
          have : (but.take q).length ≤ 8 := by simp; omega
          omega
        have hz3 := spB_size
        generalize but.getD q 0 = z at hc HQ HT hz1 hf
        generalize numsT (H ++ w5B) (but.take q) = P at HT hz2 ⊢
        have e32 := e_spB
        have hz4 : (P ++ spB).size ≤ 401 := by rw [ByteArray.size_append]; omega
        go_wp2_with (go_at_call 53; refine (HQ.out _).mono ?_; rintro e w3 ⟨rfl, hw3⟩)
        go_roundw
        case rel => exact ⟨q + 1, by omega, by go_num, by rw [HT.out], bcall HB.out (by have := HB.out.size; simpa using this) hw3⟩
        case measure => simp [intOf]; omega
      · have he : but.take q = but := List.take_of_length_le (by omega)
        rw [he]
        go_wp2_with fail
        go_ret
        exact ⟨by rw [HI.out]; rfl, unbox HB.out⟩
  · have he : but = [] := by cases but with
      | nil => rfl
      | cons x l => simp at hz; omega
    rw [if_pos he] at hT
    have HI : Hid _ := hT
    clear he hT
    go_wp2_with fail
    go_loopw [3, 4] (fun o i wr => ∃ k : Nat, k ≤ len ∧ i = .int .i64 k ∧ o = .string (numsT (H) (but.take k)) ∧ Below (w.heap.size + 1) (w.alloc (.cells #[.int .i64 ev, .int .i64 at_, .int .i64 fr, .int .i64 to_, .slice a len cap] 40)) wr) (fun _ i _ => len - (intOf i).toNat)
    case atStart => exact ⟨0, Nat.zero_le _, rfl, rfl, HB1.out⟩
    case round =>
      clear c0 c1 c2 c3 c4
      obtain ⟨q, hq, rfl, rfl, hB⟩ := hrel
      obtain ⟨c0, c1, c2, c3, c4⟩ := box5 hB
      have HB : Hid _ := hB
      clear hB
      by_cases hlt : q < len
      · omega
      · have he : but.take q = but := List.take_of_length_le (by omega)
        rw [he]
        go_wp2_with fail
        go_ret
        exact ⟨by rw [HI.out]; rfl, unbox HB.out⟩
end Go.Proofs.YtdanfekodmncmaaDoor
