/- The model's CalWrite. -/
import Derived.Test.YtkemfifkjaclhaaGreatDoorJ12
import Derived.Lib.QuietBelow
import Derived.Deep.QuietTactic
namespace Go.Proofs.YtkemfifkjaclhaaGreatDoor
set_option linter.unusedVariables false
set_option linter.unusedSimpArgs false
open Go.RowKit Go

def nlB : ByteArray := ⟨#[10]⟩
theorem e_nlB : (⟨#[10]⟩ : ByteArray) = nlB := rfl
theorem nlB_size : nlB.size = 1 := rfl
/-- The text of rules: a newline behind each. -/
def calT (rs : List Rul) : ByteArray := rs.foldl (fun o r => o ++ rulT r ++ nlB) ⟨#[]⟩
theorem calT_snoc (rs : List Rul) (r : Rul) : calT (rs ++ [r]) = calT rs ++ rulT r ++ nlB := by simp [calT]
theorem rulT_size {r : Rul} (h : RuleOk r) : (rulT r).size ≤ 300 := by
  have h1 := numsT_size r.but (fits_all (rule_fits h)) (if r.but = [] then headT r else headT r ++ w5B)
  have h8 : r.but.length ≤ 8 := h.2.2.2.2.1
  obtain ⟨⟨e1, e2⟩, ⟨a1, a2⟩, ⟨f1, f2⟩, ⟨t1, t2⟩, _, _⟩ := h
  have s1 := itoB_size r.ev (by omega) (by omega)
  have s2 := itoB_size r.at_ (by omega) (by omega)
  have s3 := itoB_size r.fr (by omega) (by omega)
  have s4 := itoB_size r.to_ (by omega) (by omega)
  have z1 : w1B.size = 6 := rfl
  have z2 : w2B.size = 4 := rfl
  have z3 : w3B.size = 6 := rfl
  have z4 : w4B.size = 4 := rfl
  have z5 : w5B.size = 4 := rfl
  have hh : (headT r).size ≤ 104 := by unfold headT; simp only [ByteArray.size_append]; omega
  have : (if r.but = [] then headT r else headT r ++ w5B).size ≤ 108 := by
    split
    · omega
    · rw [ByteArray.size_append]; omega
  unfold rulT
  omega
theorem calT_size {rs : List Rul} (h : ∀ i (hi : i < rs.length), RuleOk rs[i]) : ∀ q, q ≤ rs.length → (calT (rs.take q)).size ≤ 301 * q := by
  intro q
  induction q with
  | zero => intro _; simp only [List.take_zero, calT, List.foldl_nil]; exact Nat.le_refl 0
  | succ q ih =>
    intro hq
    have e : rs.take (q + 1) = rs.take q ++ [rs[q]] := (List.take_append_getElem (by omega)).symm
    rw [e, calT_snoc, ByteArray.size_append, ByteArray.size_append]
    have h1 := ih (by omega)
    have h2 := rulT_size (h q (by omega))
    have h3 := nlB_size
    omega
/-- What the model writes. -/
def calW (rs : List Rul) : ByteArray := if calOk rs = true then calT rs else ⟨#[]⟩

end Go.Proofs.YtkemfifkjaclhaaGreatDoor

namespace Go.Proofs.YtkemfifkjaclhaaGreatDoor
set_option linter.unusedVariables false
set_option linter.unusedSimpArgs false
open Go.RowKit Go

set_option maxHeartbeats 1000000 in
theorem l41Dec_nat (u : Nat) (hu : u ≤ 9223372036854775807) (w : World) :
    Calls Tryz.prog 46 #[.int .i64 u] w fun e w' => e = .returned (.string (decB u)) ∧ Below w.heap.size w w' := by
  induction u using Nat.strongRecOn generalizing w with
  | _ u ih =>
    by_cases h : u < 10
    · rw [decB_small h]
      clear ih
      have hcv := fun w b h' => cv_one w b (digC u) (48 + (u : Int)) (byte_of u h).symm h'
      go_enter Tryz.func46, Tryz.ntmps46
      go_wp2
      go_ret
      exact ⟨rfl, (Below.refl _ _).alloc (Nat.le_refl _) _⟩
    · have e1 : IntKind.i64.wrap ((u : Int) / 10) = ((u / 10 : Nat) : Int) := by rw [IntKind.wrap_i64]; omega
      have e2 : IntKind.u8.wrap (IntKind.i64.wrap (48 + (u : Int).tmod 10)) = ((digC (u % 10)).toNat : Int) := by
        rw [byte_of _ (by omega), Int.tmod_eq_emod_of_nonneg (by omega), IntKind.wrap_i64, IntKind.wrap_u8]; omega
      have IH : Hid (∀ w, Calls Tryz.prog 46 #[.int .i64 (IntKind.i64.wrap ((u : Int) / 10))] w fun e w' => e = .returned (.string (decB (u / 10))) ∧ Below w.heap.size w w') := fun w => by rw [e1]; exact ih (u / 10) (by omega) (by omega) w
      clear ih
      rw [decB_more h]
      go_enter Tryz.func46, Tryz.ntmps46
      have hcv := fun w b h' => cv_one w b (digC (u % 10)) _ e2 h'
      have hsz : (decB (u / 10)).size ≤ 21 := decB_size _ (by omega)
      have hs1 : (⟨#[digC (u % 10)]⟩ : ByteArray).size = 1 := rfl
      clear e1 e2
      go_wp2_with fail
      go_region_with (go_at_call 46; refine (IH.out _).mono ?_; rintro e w1 ⟨rfl, hw1⟩; have i0 := fun (h : w.heap.size < _) => hw1.cell (p := ⟨w.heap.size, 0, none⟩) h)
      all_goals
        go_wp2_with fail
        go_ret
        refine ⟨rfl, ?_⟩
        first
          | exact (bcall (Below.refl _ _).drew (Nat.le_refl _) hw1).alloc hw1.size _
          | exact bcall ((Below.refl _ _).alloc (Nat.le_refl _) _).drew (by simp) hw1

set_option maxHeartbeats 1000000 in
theorem l41Dec (n : Int) (h0 : -9223372036854775807 ≤ n) (h1 : n ≤ 9223372036854775807) (w : World) :
    Calls Tryz.prog 46 #[.int .i64 n] w fun e w' => e = .returned (.string (itoB n)) ∧ Below w.heap.size w w' := by
  by_cases h : n < 0
  · obtain ⟨u, rfl⟩ : ∃ u : Nat, n = -(u : Int) := ⟨n.natAbs, by omega⟩
    rw [itoB_neg u (by omega)]
    have IH : Hid (∀ w, Calls Tryz.prog 46 #[.int .i64 (u : Int)] w fun e w' => e = .returned (.string (decB u)) ∧ Below w.heap.size w w') := fun w => l41Dec_nat u (by omega) w
    have hsz : (decB u).size ≤ 21 := decB_size _ (by omega)
    have hs1 : (⟨#[45]⟩ : ByteArray).size = 1 := rfl
    go_enter Tryz.func46, Tryz.ntmps46
    go_wp2_with (go_at_call 46; refine (IH.out _).mono ?_; rintro e w1 ⟨rfl, hw1⟩)
    go_ret
    exact ⟨rfl, hw1⟩
  · obtain ⟨u, rfl⟩ : ∃ u : Nat, n = (u : Int) := ⟨n.toNat, by omega⟩
    rw [itoB_nat]
    exact l41Dec_nat u (by omega) w
end Go.Proofs.YtkemfifkjaclhaaGreatDoor

namespace Go.Proofs.YtkemfifkjaclhaaGreatDoor
set_option linter.unusedVariables false
set_option linter.unusedSimpArgs false
open Go.RowKit Go Go.Sort

set_option maxRecDepth 4000 in
set_option maxHeartbeats 8000000 in
theorem l41Text (r : Rul) (a : Option Addr) (len cap : Nat) (w : World) (hr : IsRow .i64 w a len cap r.but) (hok : RuleOk r) :
    Calls Tryz.prog 26 #[.agg #[.int .i64 r.ev, .int .i64 r.at_, .int .i64 r.fr, .int .i64 r.to_, .slice a len cap]] w fun x w' => x = .returned (.string (rulT r)) ∧ Below w.heap.size w w' := by
  have HF : Hid (∀ i, i < r.but.length → Fits (r.but.getD i 0)) := rule_fits hok
  obtain ⟨hz, hm⟩ := hr.len
  have HR : Hid (IsRow .i64 w a len cap r.but) := hr
  clear hr hm
  have HD : Hid (∀ n : Int, Fits n → ∀ w, Calls Tryz.prog 46 #[.int .i64 n] w fun e w' => e = .returned (.string (itoB n)) ∧ Below w.heap.size w w') := fun n h w => l41Dec n h.1 h.2 w
  obtain ⟨⟨e1, e2⟩, ⟨a1, a2⟩, ⟨f1, f2⟩, ⟨t1, t2⟩, hb8, _⟩ := hok
  unfold rulT headT
  obtain ⟨ev, at_, fr, to_, but⟩ := r
  dsimp only at *
  generalize hT : numsT (if but = [] then w1B ++ itoB ev ++ w2B ++ itoB at_ ++ w3B ++ itoB fr ++ w4B ++ itoB to_ else w1B ++ itoB ev ++ w2B ++ itoB at_ ++ w3B ++ itoB fr ++ w4B ++ itoB to_ ++ w5B) but = T
  have s1 := itoB_size ev (by omega) (by omega)
  have s2 := itoB_size at_ (by omega) (by omega)
  have s3 := itoB_size fr (by omega) (by omega)
  have s4 := itoB_size to_ (by omega) (by omega)
  have g1 : Fits ev := ⟨by omega, by omega⟩
  have g2 : Fits at_ := ⟨by omega, by omega⟩
  have g3 : Fits fr := ⟨by omega, by omega⟩
  have g4 : Fits to_ := ⟨by omega, by omega⟩
  go_enter Tryz.func26, Tryz.ntmps26
  go_wp2_with fail
  obtain ⟨c0, c1, c2, c3, c4⟩ := box5 (Below.refl (w.heap.size + 1) (w.alloc (.cells #[.int .i64 ev, .int .i64 at_, .int .i64 fr, .int .i64 to_, .slice a len cap] 50)))
  have k0 := cell_regrown c0
  have k1 := cell_regrown c1
  have k2 := cell_regrown c2
  have k3 := cell_regrown c3
  have q : ∀ n : Int, Fits n → ∀ d os, Calls Tryz.prog 46 #[.int .i64 n] (grow (redrawn (w.alloc (.cells #[.int .i64 ev, .int .i64 at_, .int .i64 fr, .int .i64 to_, .slice a len cap] 50)) d) os) fun e w'' => e = .returned (.string (itoB n)) ∧ ∃ p : Regrown, w'' = grow (redrawn (w.alloc (.cells #[.int .i64 ev, .int .i64 at_, .int .i64 fr, .int .i64 to_, .slice a len cap] 50)) p.d) p.os := fun n h d os => Calls.regrown_of (HD.out n h _)
  have n1 : ¬ 9223372036854775807 < 6 + (itoB ev).size := by omega
  have n2 : ¬ 9223372036854775807 < 6 + (itoB ev).size + 4 := by omega
  have n3 : ¬ 9223372036854775807 < 6 + (itoB ev).size + 4 + (itoB at_).size := by omega
  have n4 : ¬ 9223372036854775807 < 6 + (itoB ev).size + 4 + (itoB at_).size + 6 := by omega
  have n5 : ¬ 9223372036854775807 < 6 + (itoB ev).size + 4 + (itoB at_).size + 6 + (itoB fr).size := by omega
  have n6 : ¬ 9223372036854775807 < 6 + (itoB ev).size + 4 + (itoB at_).size + 6 + (itoB fr).size + 4 := by omega
  have n7 : ¬ 9223372036854775807 < 6 + (itoB ev).size + 4 + (itoB at_).size + 6 + (itoB fr).size + 4 + (itoB to_).size := by omega
  refine wp_region_quiet_below (by kernel_rfl) (by kernel_rfl) ?_
  repeat (quiet_step (exact q _ (by assumption) _ _))
  refine wpQuiet_nil ?_
  rintro _ ⟨⟨dq, osq⟩, rfl⟩
  have hB0 := below_regrown (w.alloc (.cells #[.int .i64 ev, .int .i64 at_, .int .i64 fr, .int .i64 to_, .slice a len cap] 50)) dq osq
  generalize hV : grow (redrawn (w.alloc (.cells #[.int .i64 ev, .int .i64 at_, .int .i64 fr, .int .i64 to_, .slice a len cap] 50)) dq) osq = V at hB0 ⊢
  clear hV k0 k1 k2 k3 q c0 c1 c2 c3 c4
  have hB1 : Below (w.heap.size + 1) (w.alloc (.cells #[.int .i64 ev, .int .i64 at_, .int .i64 fr, .int .i64 to_, .slice a len cap] 50)) V := by simpa using hB0
  clear hB0
  obtain ⟨c0, c1, c2, c3, c4⟩ := box5 hB1
  have HB1 : Hid _ := hB1
  clear hB1
  have n8 : (w1B ++ itoB ev ++ w2B ++ itoB at_ ++ w3B ++ itoB fr ++ w4B ++ itoB to_).size ≤ 104 := by
    have z1 : w1B.size = 6 := rfl
    have z2 : w2B.size = 4 := rfl
    have z3 : w3B.size = 6 := rfl
    have z4 : w4B.size = 4 := rfl
    simp only [ByteArray.size_append]; omega
  unfold w1B w2B w3B w4B at n8 hT
  generalize hH : (⟨#[101, 118, 101, 114, 121, 32]⟩ : ByteArray) ++ itoB ev ++ ⟨#[32, 97, 116, 32]⟩ ++ itoB at_ ++ ⟨#[32, 102, 114, 111, 109, 32]⟩ ++ itoB fr ++ ⟨#[32, 116, 111, 32]⟩ ++ itoB to_ = H at n8 hT ⊢
  clear n1 n2 n3 n4 n5 n6 n7 hH s1 s2 s3 s4 g1 g2 g3 g4
  have z5 : w5B.size = 4 := rfl
  have y5 : (⟨#[32, 98, 117, 116]⟩ : ByteArray) = w5B := rfl
  by_cases h0 : 0 < len
  · have hne : but ≠ [] := fun h => by subst h; simp at hz; omega
    have n9 : (H ++ w5B).size ≤ 108 := by rw [ByteArray.size_append]; omega
    rw [if_neg hne] at hT
    have HI : Hid _ := hT
    clear hne hT
    go_wp2_with fail
    go_loopw [3, 4] (fun o i wr => ∃ k : Nat, k ≤ len ∧ i = .int .i64 k ∧ o = .string (numsT (H ++ w5B) (but.take k)) ∧ Below (w.heap.size + 1) (w.alloc (.cells #[.int .i64 ev, .int .i64 at_, .int .i64 fr, .int .i64 to_, .slice a len cap] 50)) wr) (fun _ i _ => len - (intOf i).toNat)
    case atStart => exact ⟨0, Nat.zero_le _, rfl, rfl, HB1.out⟩
    case round =>
      clear c0 c1 c2 c3 c4
      obtain ⟨q, hq, rfl, rfl, hB⟩ := hrel
      obtain ⟨c0, c1, c2, c3, c4⟩ := box5 hB
      have HB : Hid _ := hB
      clear hB
      by_cases hlt : q < len
      · obtain ⟨b, off, rfl, h1, h2, hc⟩ := IsRow.at (HR.out.below (unbox HB.out)) hlt
        have hf := HF.out q (by omega)
        have HQ : Hid (∀ w, Calls Tryz.prog 46 #[.int .i64 (but.getD q 0)] w fun e w' => e = .returned (.string (itoB (but.getD q 0))) ∧ Below w.heap.size w w') := fun w => HD.out _ hf w
        have HT : Hid (numsT (H ++ w5B) (but.take (q + 1)) = numsT (H ++ w5B) (but.take q) ++ spB ++ itoB (but.getD q 0)) := by
          show _ = _
          rw [takeI_snoc but q (by omega), numsT_snoc]
        have hz1 := itoB_size (but.getD q 0) (by have := hf.1; omega) hf.2
        have hz2 : (numsT (H ++ w5B) (but.take q)).size ≤ 400 := by
          have := numsT_size (but.take q) (fun n hn => fits_all HF.out n (List.mem_of_mem_take hn)) (H ++ w5B)
          have : (but.take q).length ≤ 8 := by simp; omega
          omega
        have hz3 := spB_size
        generalize but.getD q 0 = z at hc HQ HT hz1 hf
        generalize numsT (H ++ w5B) (but.take q) = P at HT hz2 ⊢
        have e32 := e_spB
        have hz4 : (P ++ spB).size ≤ 401 := by rw [ByteArray.size_append]; omega
        go_wp2_with (go_at_call 46; refine (HQ.out _).mono ?_; rintro e w3 ⟨rfl, hw3⟩)
        go_roundw
        case rel => exact ⟨q + 1, by omega, by go_num, by rw [HT.out], bcall HB.out (by have := HB.out.size; simpa using this) hw3⟩
        case measure => simp [intOf]; omega
      · have he : but.take q = but := List.take_of_length_le (by omega)
        rw [he]
        go_wp2_with fail
        go_ret
        exact ⟨by rw [HI.out]; rfl, unbox HB.out⟩
  · have he : but = [] := by cases but with
      | nil => rfl
      | cons x l => simp at hz; omega
    rw [if_pos he] at hT
    have HI : Hid _ := hT
    clear he hT
    go_wp2_with fail
    go_loopw [3, 4] (fun o i wr => ∃ k : Nat, k ≤ len ∧ i = .int .i64 k ∧ o = .string (numsT (H) (but.take k)) ∧ Below (w.heap.size + 1) (w.alloc (.cells #[.int .i64 ev, .int .i64 at_, .int .i64 fr, .int .i64 to_, .slice a len cap] 50)) wr) (fun _ i _ => len - (intOf i).toNat)
    case atStart => exact ⟨0, Nat.zero_le _, rfl, rfl, HB1.out⟩
    case round =>
      clear c0 c1 c2 c3 c4
      obtain ⟨q, hq, rfl, rfl, hB⟩ := hrel
      obtain ⟨c0, c1, c2, c3, c4⟩ := box5 hB
      have HB : Hid _ := hB
      clear hB
      by_cases hlt : q < len
      · omega
      · have he : but.take q = but := List.take_of_length_le (by omega)
        rw [he]
        go_wp2_with fail
        go_ret
        exact ⟨by rw [HI.out]; rfl, unbox HB.out⟩
end Go.Proofs.YtkemfifkjaclhaaGreatDoor

namespace Go.Proofs.YtkemfifkjaclhaaGreatDoor
set_option linter.unusedVariables false
set_option linter.unusedSimpArgs false
open Go.RowKit Go

set_option maxHeartbeats 1000000 in
theorem specCalWrite (a : Option Addr) (len cap : Nat) (rs : List Rul) (w : World) (hr : IsRuls w a len cap rs) :
    Calls Tryz.prog 10 #[.slice a len cap] w fun e w' => e = .returned (.string (calW rs)) ∧ Below w.heap.size w w' := by
  obtain ⟨hz, hm⟩ := IsRecs.len hr
  unfold maxLen at hm
  have HR : Hid (IsRuls w a len cap rs) := hr
  have HC : Hid _ := specCalOk a len cap rs w hr
  clear hr
  by_cases hok : calOk rs = true
  · have hW : calW rs = calT rs := if_pos hok
    have HRU : Hid (∀ i (hi : i < rs.length), RuleOk rs[i]) := calOk_rules hok
    have hl4 : len ≤ 4 := by
      have := calOk_all (rs := rs) (fun i hi => ruleOk_yes (calOk_rules hok i hi))
      rw [hok] at this
      have := of_decide_eq_true this.symm
      omega
    rw [hok] at HC
    clear hok
    rw [hW]
    clear hW
    go_enter Tryz.func10, Tryz.ntmps10
    go_wp2_with (go_at_call 11; refine Calls.mono HC.out ?_; rintro e w1 ⟨rfl, hw1⟩)
    go_loopw [3, 4] (fun o i wr => ∃ q : Nat, i = .int .i64 q ∧ q ≤ len ∧ o = .string (calT (rs.take q)) ∧ Below w.heap.size w wr) (fun _ i _ => len - (intOf i).toNat)
    case atStart => exact ⟨0, rfl, Nat.zero_le _, rfl, hw1⟩
    case round =>
      obtain ⟨q, rfl, hq, rfl, hb⟩ := hrel
      by_cases hlt : q < len
      · obtain ⟨b, off, rfl, h1, hbl, a1, l1, k1, c0, c1, c2, c3, c4, hrow1, _⟩ := IsRuls.at (IsRuls.below HR.out hb) (i := q) (by omega)
        have HE : Hid _ := l41Text rs[q] a1 l1 k1 wr hrow1 (HRU.out q (by omega))
        have hs1 := calT_size HRU.out q (by omega)
        have hs2 := rulT_size (HRU.out q (by omega))
        have HT : Hid (calT (rs.take (q + 1)) = calT (rs.take q) ++ rulT rs[q] ++ nlB) := by
          show _ = _
          rw [← calT_snoc, List.take_append_getElem]
        have e10 := e_nlB
        have z10 := nlB_size
        generalize calT (rs.take q) = P at hs1 HT ⊢
        generalize rulT rs[q] = R at hs2 HT HE
        have hs3 : (P ++ R).size ≤ 301 * q + 300 := by rw [ByteArray.size_append]; omega
        go_wp2_with fail
        refine Calls.mono HE.out ?_
        rintro e w1 ⟨rfl, hw1⟩
        go_wp2_with fail
        go_roundw
        case rel => exact ⟨q + 1, by go_num, by omega, by rw [HT.out], bcall hb hb.size hw1⟩
        case measure => simp [intOf]; omega
      · have he : rs.take q = rs := List.take_of_length_le (by omega)
        rw [he]
        go_wp2_with fail
        go_ret
        exact ⟨rfl, hb⟩
  · have hW : calW rs = ⟨#[]⟩ := if_neg hok
    have hok : calOk rs = false := by simpa using hok
    rw [hok] at HC
    clear hok
    rw [hW]
    clear hW
    go_enter Tryz.func10, Tryz.ntmps10
    go_wp2_with (go_at_call 11; refine Calls.mono HC.out ?_; rintro e w1 ⟨rfl, hw1⟩)
    go_ret
    exact ⟨rfl, hw1⟩
end Go.Proofs.YtkemfifkjaclhaaGreatDoor
