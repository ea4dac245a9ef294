/- The walks of the model's small functions: l1Num, l1Operand. -/
import Derived.Test.YtbngjpnbjknliaaGreatDoorJ3
import Derived.Test.YtbngjpnbjknliaaGreatDoorJ1
namespace Go.Proofs.YtbngjpnbjknliaaGreatDoor
set_option linter.unusedVariables false
set_option linter.unusedSimpArgs false
open Go.RowKit Go

/-- A name of an ask, as it is written. -/
def nmT (s : ByteArray) : ByteArray := if s.toList = [] then ⟨#[45]⟩ else s
theorem nmT_size (s : ByteArray) (h : s.size ≤ 8) : (nmT s).size ≤ 8 := by
  unfold nmT; split
  · show 1 ≤ 8; omega
  · exact h

set_option maxRecDepth 4000 in
set_option maxHeartbeats 4000000 in
theorem l21Text_3 (id : Int) (key name : ByteArray) (nums : List Int) (a : Option Addr) (len cap : Nat) (w : World) (hr : IsRow .i64 w a len cap nums) (hi : 0 ≤ id ∧ id ≤ 9999) (hns : numsIn nums = true) (hl4 : nums.length ≤ 4) (hn : name.size ≤ 8) (hkz : key.size ≤ 24) :
    Calls Tryz.prog 22 #[.agg #[.int .i64 3, .int .i64 id, .string key, .string name, .slice a len cap]] w fun x w' => x = .returned (.string (numsT ((entW[3]'(by decide)) ++ spB ++ itoB id ++ spB ++ key ++ spB ++ nmT name) nums)) ∧ Below w.heap.size w w' := by
  obtain ⟨hz, hm⟩ := hr.len
  have HR : Hid (IsRow .i64 w a len cap nums) := hr
  clear hr hm
  have HW : Hid (∀ w, Calls Tryz.prog 19 #[] w fun e w' => e = .returned (.slice (some ⟨w.heap.size, 0, none⟩) 10 10) ∧ (∀ k (h : k < entW.length), w'.cell? ⟨w.heap.size, k, none⟩ = some (.string entW[k])) ∧ Below w.heap.size w w') := l21Words
  have HD : Hid (∀ w, Calls Tryz.prog 43 #[.int .i64 id] w fun e w' => e = .returned (.string (itoB id)) ∧ Below w.heap.size w w') := fun w => l1Dec id (by omega) (by omega) w
  have his := itoB_size id (by omega) (by omega)
  have hks : (entW[3]'(by decide)).size = 3 := rfl
  generalize hK : (entW[3]'(by decide)) = K at hks ⊢
  have HK : Hid (entW[3]'(by decide) = K) := hK
  clear hK
  go_enter Tryz.func22, Tryz.ntmps22
  go_wp2_with fail
  go_region_with (go_at_call 19; refine (HW.out _).mono ?_; rintro e w1 ⟨rfl, hc1, hw1⟩; have d1 : w1.cell? ⟨w.heap.size + 1, 3, none⟩ = some (.string K) := (by rw [← HK.out]; simpa using hc1 3 (by decide)); clear hc1; obtain ⟨hcx, hfx⟩ := bcell hw1)
  all_goals
    have hB1 : Below (w.heap.size + 1) (w.alloc (.cells #[.int .i64 3, .int .i64 id, .string key, .string name, .slice a len cap] 32)) w1 := bcall (Below.refl _ _).drew (by simp) hw1
    clear hw1 d1 hcx hfx
    obtain ⟨c0, c1, c2, c3, c4⟩ := box5 hB1
    have HB1 : Hid _ := hB1
    clear hB1
    have e32 := e_spB
    have hz5 := spB_size
    have hz6 : (K ++ spB).size ≤ 20 := by rw [ByteArray.size_append]; omega
    have hz7 : (K ++ spB ++ itoB id).size ≤ 41 := by rw [ByteArray.size_append]; omega
    have hz8 : (K ++ spB ++ itoB id ++ spB).size ≤ 42 := by rw [ByteArray.size_append]; omega
    have hz9 : (K ++ spB ++ itoB id ++ spB ++ key).size ≤ 66 := by rw [ByteArray.size_append]; omega
    have hz10 : (K ++ spB ++ itoB id ++ spB ++ key ++ spB).size ≤ 67 := by rw [ByteArray.size_append]; omega
    have hz11 : (⟨#[45]⟩ : ByteArray).size = 1 := rfl
    have hlt1 : w.heap.size < w1.heap.size := by have := HB1.out.size; simp at this; omega
    go_wp2_with fail
    go_region_with (go_at_call 43; refine (HD.out _).mono ?_; rintro e w2 ⟨rfl, hw2⟩; have i2 := (hw2.cell (p := ⟨w.heap.size, 2, none⟩) hlt1).trans c2; have i3 := (hw2.cell (p := ⟨w.heap.size, 3, none⟩) hlt1).trans c3; have i4 := (hw2.cell (p := ⟨w.heap.size, 4, none⟩) hlt1).trans c4)
    all_goals
      have HB2 : Hid _ := bcall HB1.out.drew (by have := HB1.out.size; simpa using this) hw2
      have hPB : (K ++ spB ++ itoB id ++ spB ++ key ++ spB).size ≤ 67 := hz10
      clear hz6 hz7 hz8 hz9 hz10 hw2 c0 c1 c2 c3 c4 i2
      generalize hPP : K ++ spB ++ itoB id ++ spB ++ key ++ spB = PP at hPB ⊢
      have HPP : Hid _ := hPP
      clear hPP
      by_cases hnm : name.toList = []
      · have HNM : Hid (nmT name = ⟨#[45]⟩) := if_pos hnm
        go_wp2_with fail
        have HBZ : Hid ((PP ++ ⟨#[45]⟩).size ≤ 90) := by
          show (PP ++ ⟨#[45]⟩).size ≤ 90
          first | omega | (simp only [ByteArray.size_append, spB_size]; omega)
        generalize hBB : PP ++ ⟨#[45]⟩ = B at HBZ ⊢
        have HBB : Hid _ := hBB
        clear hBB
        go_loopw [3, 4] (fun o i wr => ∃ k : Nat, k ≤ len ∧ i = .int .i64 k ∧ o = .string (numsT B (nums.take k)) ∧ Below (w.heap.size + 1) (w.alloc (.cells #[.int .i64 3, .int .i64 id, .string key, .string name, .slice a len cap] 32)) wr) (fun _ i _ => len - (intOf i).toNat)
        case atStart => exact ⟨0, Nat.zero_le _, rfl, rfl, HB2.out⟩
        case round =>
          clear i3 i4
          obtain ⟨q, hq, rfl, rfl, hB⟩ := hrel
          obtain ⟨c0, c1, c2, c3, c4⟩ := box5 hB
          have HB : Hid _ := hB
          clear hB
          by_cases hlt : q < len
          · obtain ⟨b, off, rfl, h1, h2, hc⟩ := IsRow.at (HR.out.below (unbox HB.out)) hlt
            have hb9 := numsIn_at hns q (by omega)
            have HQ : Hid (∀ w, Calls Tryz.prog 43 #[.int .i64 (nums.getD q 0)] w fun e w' => e = .returned (.string (itoB (nums.getD q 0))) ∧ Below w.heap.size w w') := fun w => l1Dec _ (by omega) (by omega) w
            have HT : Hid (numsT B (nums.take (q + 1)) = numsT B (nums.take q) ++ spB ++ itoB (nums.getD q 0)) := by
              show _ = _
              rw [takeI_snoc nums q (by omega), numsT_snoc]
            have hz1 := itoB_size (nums.getD q 0) (by omega) (by omega)
            have hz2 : (numsT B (nums.take q)).size ≤ 200 := by
              have := numsT_size _ (numsIn_take hns q) B
              have h9 := HBZ.out
              have : (nums.take q).length ≤ 4 := by simp; omega
              omega
            have hz3 := spB_size
            generalize nums.getD q 0 = z at hc HQ HT hz1 hb9
            generalize numsT B (nums.take q) = P at HT hz2 ⊢
            have e32 := e_spB
            have hz4 : (P ++ spB).size ≤ 201 := by rw [ByteArray.size_append]; omega
            go_wp2_with (go_at_call 43; refine (HQ.out _).mono ?_; rintro e w3 ⟨rfl, hw3⟩)
            go_roundw
            case rel => exact ⟨q + 1, by omega, by go_num, by rw [HT.out], bcall HB.out (by have := HB.out.size; simpa using this) hw3⟩
            case measure => simp [intOf]; omega
          · have he : nums.take q = nums := List.take_of_length_le (by omega)
            rw [he]
            go_wp2_with fail
            go_ret
            refine ⟨?_, unbox HB.out⟩
            rw [HPP.out, HNM.out, HBB.out]; rfl
      · have HNM : Hid (nmT name = name) := if_neg hnm
        have hne : name.toList.isEmpty = false := by simpa using hnm
        clear hnm
        go_wp2_with fail
        have HBZ : Hid ((PP ++ name).size ≤ 90) := by
          show (PP ++ name).size ≤ 90
          first | omega | (simp only [ByteArray.size_append, spB_size]; omega)
        generalize hBB : PP ++ name = B at HBZ ⊢
        have HBB : Hid _ := hBB
        clear hBB
        go_loopw [3, 4] (fun o i wr => ∃ k : Nat, k ≤ len ∧ i = .int .i64 k ∧ o = .string (numsT B (nums.take k)) ∧ Below (w.heap.size + 1) (w.alloc (.cells #[.int .i64 3, .int .i64 id, .string key, .string name, .slice a len cap] 32)) wr) (fun _ i _ => len - (intOf i).toNat)
        case atStart => exact ⟨0, Nat.zero_le _, rfl, rfl, HB2.out⟩
        case round =>
          clear i3 i4
          obtain ⟨q, hq, rfl, rfl, hB⟩ := hrel
          obtain ⟨c0, c1, c2, c3, c4⟩ := box5 hB
          have HB : Hid _ := hB
          clear hB
          by_cases hlt : q < len
          · obtain ⟨b, off, rfl, h1, h2, hc⟩ := IsRow.at (HR.out.below (unbox HB.out)) hlt
            have hb9 := numsIn_at hns q (by omega)
            have HQ : Hid (∀ w, Calls Tryz.prog 43 #[.int .i64 (nums.getD q 0)] w fun e w' => e = .returned (.string (itoB (nums.getD q 0))) ∧ Below w.heap.size w w') := fun w => l1Dec _ (by omega) (by omega) w
            have HT : Hid (numsT B (nums.take (q + 1)) = numsT B (nums.take q) ++ spB ++ itoB (nums.getD q 0)) := by
              show _ = _
              rw [takeI_snoc nums q (by omega), numsT_snoc]
            have hz1 := itoB_size (nums.getD q 0) (by omega) (by omega)
            have hz2 : (numsT B (nums.take q)).size ≤ 200 := by
              have := numsT_size _ (numsIn_take hns q) B
              have h9 := HBZ.out
              have : (nums.take q).length ≤ 4 := by simp; omega
              omega
            have hz3 := spB_size
            generalize nums.getD q 0 = z at hc HQ HT hz1 hb9
            generalize numsT B (nums.take q) = P at HT hz2 ⊢
            have e32 := e_spB
            have hz4 : (P ++ spB).size ≤ 201 := by rw [ByteArray.size_append]; omega
            go_wp2_with (go_at_call 43; refine (HQ.out _).mono ?_; rintro e w3 ⟨rfl, hw3⟩)
            go_roundw
            case rel => exact ⟨q + 1, by omega, by go_num, by rw [HT.out], bcall HB.out (by have := HB.out.size; simpa using this) hw3⟩
            case measure => simp [intOf]; omega
          · have he : nums.take q = nums := List.take_of_length_le (by omega)
            rw [he]
            go_wp2_with fail
            go_ret
            refine ⟨?_, unbox HB.out⟩
            rw [HPP.out, HNM.out, HBB.out]; rfl

end Go.Proofs.YtbngjpnbjknliaaGreatDoor

namespace Go.Proofs.YtbngjpnbjknliaaGreatDoor
set_option linter.unusedVariables false
set_option linter.unusedSimpArgs false
open Go.RowKit Go

/-- The text of an entry. -/
def entText (e : Ent) : ByteArray :=
  numsT (if e.kind = 3 then entW.getD 3 ⟨#[]⟩ ++ spB ++ itoB e.id ++ spB ++ e.key ++ spB ++ nmT e.name
    else if e.kind = 2 ∨ e.kind = 7 then entW.getD e.kind.toNat ⟨#[]⟩ ++ spB ++ e.name
    else if e.kind = 1 ∨ e.kind = 8 then entW.getD e.kind.toNat ⟨#[]⟩
    else entW.getD e.kind.toNat ⟨#[]⟩ ++ spB ++ itoB e.id) e.nums
theorem emp_size {s : ByteArray} (h : emp s = true) : s.size = 0 := by
  have h' : s.toList = [] := by simpa [emp] using h
  rw [ByteArray.toList_eq] at h'
  cases s with | mk d => simpa [ByteArray.size] using congrArg List.length h'
theorem entOk_bd {e : Ent} (h : entOk e = true) : (1 ≤ e.kind ∧ e.kind ≤ 9) ∧ (0 ≤ e.id ∧ e.id ≤ 9999) ∧ numsIn e.nums = true ∧ e.nums.length ≤ 4 ∧ e.name.size ≤ 8 ∧ e.key.size ≤ 24 := by
  obtain ⟨kind, id, key, name, nums⟩ := e
  simp only [entOk, Bool.and_eq_true, Bool.or_eq_true, decide_eq_true_eq] at h
  obtain ⟨⟨⟨h1, h2⟩, h3⟩, h4⟩ := h
  have hnm : nameOk name.data.toList = true → name.size ≤ 8 := fun h => by
    simp only [nameOk, Bool.and_eq_true, decide_eq_true_eq] at h
    have := h.1.1.2; simpa using this
  have hem : emp name = true → name.size ≤ 8 := fun h => by rw [emp_size h]; omega
  have hek : emp key = true → key.size ≤ 24 := fun h => by rw [emp_size h]; omega
  have hkk : keyOk key.data.toList = true → key.size ≤ 24 := fun h => by
    simp only [keyOk, Bool.and_eq_true, decide_eq_true_eq] at h
    have := h.2; simpa using this
  simp only [entBody] at h4
  show (1 ≤ kind ∧ kind ≤ 9) ∧ (0 ≤ id ∧ id ≤ 9999) ∧ numsIn nums = true ∧ nums.length ≤ 4 ∧ name.size ≤ 8 ∧ key.size ≤ 24
  refine ⟨?_, h2, h1, ?_, ?_, ?_⟩
  · repeat' split at h4
    all_goals first | omega | exact absurd h4 (by simp)
  · repeat' split at h4
    all_goals (simp only [Bool.and_eq_true, Bool.or_eq_true, decide_eq_true_eq, Bool.false_eq_true] at h4; try omega)
  · repeat' split at h4
    all_goals (simp only [Bool.and_eq_true, Bool.or_eq_true, decide_eq_true_eq, Bool.false_eq_true] at h4)
    all_goals first | exact hem h4.1.2 | exact hnm h4.1.2 | exact h4.1.2.elim hem hnm
  · rcases h3 with h3 | h3
    · exact hek h3
    · subst h3
      rw [if_neg (by omega), if_neg (by omega), if_pos rfl] at h4
      simp only [Bool.and_eq_true] at h4
      exact hkk h4.1.1.2
theorem l21Text (e : Ent) (a : Option Addr) (len cap : Nat) (w : World) (hr : IsRow .i64 w a len cap e.nums) (h : entOk e = true) :
    Calls Tryz.prog 22 #[.agg #[.int .i64 e.kind, .int .i64 e.id, .string e.key, .string e.name, .slice a len cap]] w fun x w' => x = .returned (.string (entText e)) ∧ Below w.heap.size w w' := by
  obtain ⟨hk, hi, hn, h4, hs, hz⟩ := entOk_bd h
  obtain ⟨kind, id, key, name, nums⟩ := e
  simp only at *
  rcases (by omega : kind = 1 ∨ kind = 2 ∨ kind = 3 ∨ kind = 4 ∨ kind = 5 ∨ kind = 6 ∨ kind = 7 ∨ kind = 8 ∨ kind = 9) with rfl | rfl | rfl | rfl | rfl | rfl | rfl | rfl | rfl
  · exact l21Text_1 id key name nums a len cap w hr hi hn h4 hs
  · exact l21Text_2 id key name nums a len cap w hr hi hn h4 hs
  · exact l21Text_3 id key name nums a len cap w hr hi hn h4 hs hz
  · exact l21Text_4 id key name nums a len cap w hr hi hn h4 hs
  · exact l21Text_5 id key name nums a len cap w hr hi hn h4 hs
  · exact l21Text_6 id key name nums a len cap w hr hi hn h4 hs
  · exact l21Text_7 id key name nums a len cap w hr hi hn h4 hs
  · exact l21Text_8 id key name nums a len cap w hr hi hn h4 hs
  · exact l21Text_9 id key name nums a len cap w hr hi hn h4 hs

def entsOk (es : List Ent) : Bool := es.all entOk && decide (es.length ≤ 400)
theorem entsOk_no {es : List Ent} {k : Nat} (hk : k < es.length) (h : entOk es[k] = false) : entsOk es = false := by
  have : es.all entOk = false := by rw [List.all_eq_false]; exact ⟨es[k], List.getElem_mem hk, by simp [h]⟩
  simp [entsOk, this]
theorem entsOk_all {es : List Ent} (h : ∀ i (hi : i < es.length), entOk es[i] = true) : entsOk es = decide ((es.length : Int) ≤ 400) := by
  have : es.all entOk = true := by rw [List.all_eq_true]; intro x hx; obtain ⟨i, hi, rfl⟩ := List.mem_iff_getElem.1 hx; exact h i hi
  simp only [entsOk, this, Bool.true_and]
  exact decide_eq_decide.2 (by omega)

/-- All entries, a newline behind each. -/
def nlB : ByteArray := ⟨#[10]⟩
def histT (es : List Ent) : ByteArray := es.foldl (fun o e => o ++ entText e ++ nlB) ⟨#[]⟩
theorem histT_snoc (es : List Ent) (e : Ent) : histT (es ++ [e]) = histT es ++ entText e ++ nlB := by simp [histT]
theorem nlB_size : nlB.size = 1 := rfl
theorem e_nlB : (⟨#[10]⟩ : ByteArray) = nlB := rfl
theorem nmT_sz (s : ByteArray) (h : s.size ≤ 8) : (nmT s).size ≤ 8 := nmT_size s h
theorem entText_size {e : Ent} (h : entOk e = true) : (entText e).size ≤ 300 := by
  obtain ⟨hk, hi, hn, h4, hs, hz⟩ := entOk_bd h
  have hi2 := itoB_size e.id (by omega) (by omega)
  have hw : ∀ k : Nat, k ≤ 9 → (entW.getD k ⟨#[]⟩).size ≤ 8 := by decide
  unfold entText
  refine Nat.le_trans (numsT_size _ hn _) ?_
  have h3 := nmT_size e.name hs
  have hw3 := hw 3 (by omega)
  have hwk := hw e.kind.toNat (by omega)
  have hsp := spB_size
  repeat' split
  all_goals first | omega | (simp only [ByteArray.size_append]; omega)
theorem histT_size {es : List Ent} (h : ∀ e ∈ es, entOk e = true) : (histT es).size ≤ 301 * es.length := by
  have key : ∀ (l : List Ent) (b : ByteArray), (∀ e ∈ l, entOk e = true) → (l.foldl (fun o e => o ++ entText e ++ nlB) b).size ≤ b.size + 301 * l.length := by
    intro l
    induction l with
    | nil => intro b _; simp
    | cons x l ih =>
      intro b hl
      have h1 := ih (b ++ entText x ++ nlB) (fun e he => hl e (List.mem_cons_of_mem _ he))
      have h2 := entText_size (hl x List.mem_cons_self)
      simp only [List.foldl_cons, ByteArray.size_append, nlB_size, List.length_cons] at h1 ⊢
      omega
  have := key es ⟨#[]⟩ h
  have e0 : (⟨#[]⟩ : ByteArray).size = 0 := rfl
  rw [e0, Nat.zero_add] at this
  exact this

def histW (es : List Ent) : ByteArray := if entsOk es then histT es else ⟨#[]⟩
theorem ents_all {es : List Ent} (h : entsOk es = true) : (∀ e ∈ es, entOk e = true) ∧ es.length ≤ 400 := by
  simp only [entsOk, Bool.and_eq_true, List.all_eq_true, decide_eq_true_eq] at h; exact h

end Go.Proofs.YtbngjpnbjknliaaGreatDoor

namespace Go.Proofs.YtbngjpnbjknliaaGreatDoor
set_option linter.unusedVariables false
set_option linter.unusedSimpArgs false
open Go.RowKit

theorem eqS_iff (a b : ByteArray) : (a.toList == b.toList) = true ↔ a = b := by
  rw [beq_iff_eq, ByteArray.toList_eq, ByteArray.toList_eq]
  constructor
  · intro h; cases a; cases b; simp at h; simp [h]
  · rintro rfl; rfl
theorem eqS_no (a b : ByteArray) : (a.toList == b.toList) = false ↔ a ≠ b := by
  rw [← Bool.not_eq_true, eqS_iff]
def hasS (ss : List ByteArray) (s : ByteArray) : Bool := ss.any (fun x => x.toList == s.toList)
theorem hasS_iff (ss : List ByteArray) (s : ByteArray) : hasS ss s = true ↔ s ∈ ss := by
  unfold hasS; rw [List.any_eq_true]
  constructor
  · rintro ⟨x, hx, h⟩; rw [eqS_iff] at h; exact h ▸ hx
  · intro h; exact ⟨s, h, (eqS_iff s s).2 rfl⟩
theorem hasS_no_take {ss : List ByteArray} {s : ByteArray} (h : ∀ j (hj : j < ss.length), (ss[j].toList == s.toList) = false) : hasS ss s = false := by
  unfold hasS; rw [List.any_eq_false]; intro x hx; obtain ⟨i, hi, rfl⟩ := List.mem_iff_getElem.1 hx; simp only [h i hi]; simp
theorem hasS_yes {ss : List ByteArray} {s : ByteArray} {j : Nat} (hj : j < ss.length) (h : (ss[j].toList == s.toList) = true) : hasS ss s = true := by
  unfold hasS; rw [List.any_eq_true]; exact ⟨ss[j], List.getElem_mem hj, h⟩
theorem has_step {ss : List ByteArray} {s : ByteArray} {k : Nat} (h : k < ss.length) (ha : ∀ j (hj : j < ss.length), j < k → (ss[j].toList == s.toList) = false) (hw : (ss[k].toList == s.toList) = false) : ∀ j (hj : j < ss.length), j < k + 1 → (ss[j].toList == s.toList) = false := by
  intro j hj hjk
  by_cases e : j = k
  · subst e; exact hw
  · exact ha j hj (by omega)

end Go.Proofs.YtbngjpnbjknliaaGreatDoor

namespace Go.Proofs.YtbngjpnbjknliaaGreatDoor
set_option linter.unusedVariables false
set_option linter.unusedSimpArgs false

/-- The figures of a number: 1 to 4, no nought ahead. -/
def numBody (d : List UInt8) : Bool := decide (1 ≤ d.length) && decide (d.length ≤ 4) && !(decide (1 < d.length) && decide (d.head? = some 48)) && d.all isDig
def numNeg (s : List UInt8) : Bool := decide (1 < s.length) && decide (s.head? = some 45)
/-- A number as it is written, -9999 to 9999. -/
def numOk (s : List UInt8) : Bool := if numNeg s then numBody s.tail && !decide (s.tail = [48]) else numBody s
def opOk (s : List UInt8) : Bool := numOk s || nameOk s
def digVal (n : Int) (l : List UInt8) : Int := l.foldl (fun n c => n * 10 + ((c.toNat : Int) - 48)) n
def numVal (s : List UInt8) : Int := if numNeg s then - digVal 0 s.tail else digVal 0 s

theorem digVal_snoc (n : Int) (l : List UInt8) (c : UInt8) : digVal n (l ++ [c]) = digVal n l * 10 + ((c.toNat : Int) - 48) := by simp [digVal]
theorem isDig_bd {c : UInt8} (h : isDig c = true) : 48 ≤ c.toNat ∧ c.toNat ≤ 57 := by simpa [isDig] using h
/-- A bound on what at most four figures come to. -/
theorem digVal_bd : ∀ (l : List UInt8) (n : Int), 0 ≤ n → l.all isDig = true → 0 ≤ digVal n l ∧ digVal n l < (n + 1) * 10 ^ l.length := by
  intro l
  induction l with
  | nil => intro n h _; simp [digVal]; omega
  | cons c l ih =>
    intro n hn h
    simp only [List.all_cons, Bool.and_eq_true] at h
    obtain ⟨h1, h2⟩ := isDig_bd h.1
    have := ih (n * 10 + ((c.toNat : Int) - 48)) (by omega) h.2
    refine ⟨this.1, Int.lt_of_lt_of_le this.2 ?_⟩
    have e : (10 : Int) ^ (c :: l).length = 10 * 10 ^ l.length := by rw [List.length_cons, Int.pow_succ, Int.mul_comm]
    rw [e]
    have p : (0 : Int) ≤ 10 ^ l.length := Int.le_of_lt (Int.pow_pos (by decide))
    calc (n * 10 + ((c.toNat : Int) - 48) + 1) * 10 ^ l.length ≤ ((n + 1) * 10) * 10 ^ l.length := Int.mul_le_mul_of_nonneg_right (by omega) p
      _ = (n + 1) * (10 * 10 ^ l.length) := Int.mul_assoc _ _ _
theorem numBody_len {d : List UInt8} (h : ¬ (1 ≤ d.length ∧ d.length ≤ 4)) : numBody d = false := by
  unfold numBody
  by_cases h1 : 1 ≤ d.length <;> by_cases h2 : d.length ≤ 4 <;> simp [h1, h2] <;> omega
theorem numBody_zero {d : List UInt8} (h : 1 < d.length) (h0 : d.head? = some 48) : numBody d = false := by simp [numBody, h, h0]
theorem numBody_at {d : List UInt8} {k : Nat} (hk : k < d.length) (h : isDig d[k] = false) : numBody d = false := by
  have : d.all isDig = false := by rw [List.all_eq_false]; exact ⟨d[k], List.getElem_mem hk, by simp [h]⟩
  simp [numBody, this]
theorem numBody_good {d : List UInt8} (h1 : 1 ≤ d.length) (h2 : d.length ≤ 4) (h3 : ¬ (1 < d.length ∧ d.head? = some 48)) (h4 : ∀ i (hi : i < d.length), isDig d[i] = true) : numBody d = true := by
  have : d.all isDig = true := by rw [List.all_eq_true]; intro x hx; obtain ⟨i, hi, rfl⟩ := List.mem_iff_getElem.1 hx; exact h4 i hi
  unfold numBody
  rw [this]
  simp only [h1, h2, decide_true, Bool.true_and, Bool.and_true, Bool.not_eq_true']
  rw [Bool.and_eq_false_iff]
  by_cases h : 1 < d.length
  · exact .inr (by simpa using fun e => h3 ⟨h, e⟩)
  · exact .inl (by simpa using h)
end Go.Proofs.YtbngjpnbjknliaaGreatDoor

namespace Go.Proofs.YtbngjpnbjknliaaGreatDoor
set_option linter.unusedVariables false
set_option linter.unusedSimpArgs false
open Go.RowKit

theorem head_at (s : ByteArray) (h : 0 < s.size) : s.data.toList.head? = some s[0] := by
  rw [← bget s 0 h, List.head?_eq_getElem?, List.getElem?_eq_getElem]
theorem byte_eq {c : UInt8} {n : Nat} (hn : n < 256) : ((c.toNat : Int) == (n : Int)) = decide (c = UInt8.ofNat n) := by
  rw [Bool.eq_iff_iff, beq_iff_eq, decide_eq_true_eq]
  constructor
  · intro h; apply UInt8.toNat_inj.1; rw [UInt8.toNat_ofNat_of_lt' (by simpa using hn)]; omega
  · rintro rfl; rw [UInt8.toNat_ofNat_of_lt' (by simpa using hn)]
theorem dig_step {s : ByteArray} {k : Nat} (h : k < s.size) (ha : ∀ j (hj : j < s.size), j < k → isDig s[j] = true) (hw : isDig s[k] = true) : ∀ j (hj : j < s.size), j < k + 1 → isDig s[j] = true := by
  intro j hj hjk
  by_cases e : j = k
  · subst e; exact hw
  · exact ha j hj (by omega)
theorem dig_take {s : ByteArray} {k : Nat} (hk : k ≤ s.size) (ha : ∀ j (hj : j < s.size), j < k → isDig s[j] = true) : (s.data.toList.take k).all isDig = true := by
  rw [List.all_eq_true]; intro x hx
  obtain ⟨i, hi, rfl⟩ := List.mem_iff_getElem.1 hx
  simp only [List.length_take] at hi
  rw [List.getElem_take, bget s i (by simp at hi; omega)]
  exact ha i _ (by omega)
theorem dig_bd {s : ByteArray} {k : Nat} (hk : k ≤ s.size) (h4 : s.size ≤ 4) (ha : ∀ j (hj : j < s.size), j < k → isDig s[j] = true) : 0 ≤ digVal 0 (s.data.toList.take k) ∧ digVal 0 (s.data.toList.take k) ≤ 9999 := by
  have h := digVal_bd (s.data.toList.take k) 0 (Int.le_refl _) (dig_take hk ha)
  have hl : (s.data.toList.take k).length ≤ 4 := by simp; omega
  have : (10 : Int) ^ (s.data.toList.take k).length ≤ 10 ^ 4 := by
    generalize (s.data.toList.take k).length = m at hl ⊢
    match m, hl with
    | 0, _ => decide
    | 1, _ => decide
    | 2, _ => decide
    | 3, _ => decide
    | 4, _ => decide
  omega
theorem dig_val {s : ByteArray} {k : Nat} (h : k < s.size) (hd : isDig s[k] = true) (b0 : 0 ≤ digVal 0 (s.data.toList.take k)) (b1 : digVal 0 (s.data.toList.take k) ≤ 9999) :
    Value.int .i64 (digVal 0 (s.data.toList.take k) * 10 + ((s[k].toNat : Int) - 48)) = .int .i64 (digVal 0 (s.data.toList.take (k + 1))) := by
  rw [take_snoc s k h, digVal_snoc]
theorem digNot {c : UInt8} (h : isDig c = false) : ((c.toNat : Int) < 48) ∨ ((57 : Int) < (c.toNat : Int)) := by
  simp only [isDig, Bool.and_eq_false_iff, decide_eq_false_iff_not] at h; omega

set_option maxHeartbeats 1000000 in
theorem l1Num_pos (s : ByteArray) (w : World) (hs : s.size ≤ maxLen) (hn : numNeg s.data.toList = false) :
    Calls Tryz.prog 20 #[.string s] w fun e w' => (∃ n, e = .returned (.tuple #[.int .i64 n, .bool (numBody s.data.toList)]) ∧ (numBody s.data.toList = true → n = digVal 0 s.data.toList)) ∧ w' = w := by
  unfold maxLen at hs
  have hneg : ∀ (h : 1 < s.size), ((s[0].toNat : Int) == 45) = false := fun h => by
    rw [show (45 : Int) = ((45 : Nat) : Int) from rfl, byte_eq (by decide)]
    simp only [numNeg, head_at s (by omega), Bool.and_eq_false_iff, decide_eq_false_iff_not, Option.some.injEq] at hn
    rcases hn with hn | hn
    · simp at hn; omega
    · simpa using hn
  by_cases hl : 1 ≤ s.size ∧ s.size ≤ 4
  · obtain ⟨hl1, hl2⟩ := hl
    have d0 : 0 < s.size := by omega
    by_cases hz : 1 < s.size ∧ s[0] = 48
    · obtain ⟨hz1, hz2⟩ := hz
      have HF : Hid (numBody s.data.toList = false) := numBody_zero (by simpa using hz1) (by rw [head_at s d0, hz2])
      have hz3 : ((s[0].toNat : Int) == 48) = true := by rw [show (48 : Int) = ((48 : Nat) : Int) from rfl, byte_eq (by decide)]; simpa using hz2
      clear hz2
      have hg := hneg (by omega); clear hneg hn
      go_enter Tryz.func20, Tryz.ntmps20
      go_wp2_with (go_at_call 39; refine (l1In_t _ _ _ _ (by omega) (by omega)).mono ?_; rintro e w' ⟨rfl, rfl⟩)
      go_ret2
      exact ⟨⟨_, by rw [HF.out]; rfl, fun h => by rw [HF.out] at h; simp at h⟩, rfl⟩
    · have hz' : ∀ h : 1 < s.size, ((s[0].toNat : Int) == 48) = false := fun h => by
        rw [show (48 : Int) = ((48 : Nat) : Int) from rfl, byte_eq (by decide)]
        simpa using fun e => hz ⟨h, e⟩
      have HZ : Hid (¬ (1 < s.data.toList.length ∧ s.data.toList.head? = some 48)) := fun h => hz ⟨by simpa using h.1, by have := h.2; rw [head_at s d0] at this; simpa using this⟩
      clear hz
      by_cases h1 : 1 < s.size
      · have hz2 := hz' h1
        clear hz'
        have hg := hneg (by omega); clear hneg hn
        go_enter Tryz.func20, Tryz.ntmps20
        go_wp2_with (go_at_call 39; refine (l1In_t _ _ _ _ (by omega) (by omega)).mono ?_; rintro e w' ⟨rfl, rfl⟩)
        go_loop [6, 7] (fun n i => ∃ k : Nat, k ≤ s.size ∧ i = .int .i64 k ∧ n = .int .i64 (digVal 0 (s.data.toList.take k)) ∧ ∀ j (hj : j < s.size), j < k → isDig s[j] = true) (fun _ i => s.size - (intOf i).toNat)
        case atStart => exact ⟨0, Nat.zero_le _, rfl, rfl, fun j hj h => by omega⟩
        case round =>
          obtain ⟨k, hk, rfl, rfl, ha⟩ := hrel
          have HA : Hid (∀ j (hj : j < s.size), j < k → isDig s[j] = true) := ha
          obtain ⟨b0, b1⟩ := dig_bd hk hl2 ha
          clear ha
          by_cases hlt : k < s.size
          · by_cases hd : isDig s[k] = true
            · have HD : Hid (isDig s[k] = true) := hd
              obtain ⟨c1, c2⟩ := isDig_bd hd
              have c1 : (48 : Int) ≤ (s[k].toNat : Int) := by omega
              have c2 : (s[k].toNat : Int) ≤ 57 := by omega
              clear hd
              go_wp2
              go_round
              case rel => exact ⟨k + 1, by omega, by go_num, dig_val hlt HD.out b0 b1, dig_step hlt HA.out HD.out⟩
              case measure => simp [intOf]; omega
            · have hd0 : isDig s[k] = false := by simpa using hd
              have HF : Hid (numBody s.data.toList = false) := numBody_at (k := k) (by simpa using hlt) (by rw [bget s k hlt]; exact hd0)
              rcases digNot hd0 with c1 | c1
              · clear hd hd0
                go_wp2
                go_ret2
                exact ⟨⟨_, by rw [HF.out]; rfl, fun h => by rw [HF.out] at h; simp at h⟩, rfl⟩
              · have c2 : ¬ ((s[k].toNat : Int) < 48) := by omega
                clear hd hd0
                go_wp2
                go_ret2
                exact ⟨⟨_, by rw [HF.out]; rfl, fun h => by rw [HF.out] at h; simp at h⟩, rfl⟩
          · have hke : s.data.toList.take k = s.data.toList := List.take_of_length_le (by simp; omega)
            have HF : Hid (numBody s.data.toList = true) := numBody_good (by simpa using hl1) (by simpa using hl2) HZ.out (fun i hi => by rw [bget s i (by simpa using hi)]; exact HA.out i _ (by simp at hi; omega))
            rw [hke] at b0 b1
            rw [hke]
            clear hke
            go_wp2
            go_ret2
            exact ⟨⟨_, by rw [HF.out]; rfl, fun _ => rfl⟩, rfl⟩
      · clear hz'
        clear hneg hn
        go_enter Tryz.func20, Tryz.ntmps20
        go_wp2_with (go_at_call 39; refine (l1In_t _ _ _ _ (by omega) (by omega)).mono ?_; rintro e w' ⟨rfl, rfl⟩)
        go_loop [6, 7] (fun n i => ∃ k : Nat, k ≤ s.size ∧ i = .int .i64 k ∧ n = .int .i64 (digVal 0 (s.data.toList.take k)) ∧ ∀ j (hj : j < s.size), j < k → isDig s[j] = true) (fun _ i => s.size - (intOf i).toNat)
        case atStart => exact ⟨0, Nat.zero_le _, rfl, rfl, fun j hj h => by omega⟩
        case round =>
          obtain ⟨k, hk, rfl, rfl, ha⟩ := hrel
          have HA : Hid (∀ j (hj : j < s.size), j < k → isDig s[j] = true) := ha
          obtain ⟨b0, b1⟩ := dig_bd hk hl2 ha
          clear ha
          by_cases hlt : k < s.size
          · by_cases hd : isDig s[k] = true
            · have HD : Hid (isDig s[k] = true) := hd
              obtain ⟨c1, c2⟩ := isDig_bd hd
              have c1 : (48 : Int) ≤ (s[k].toNat : Int) := by omega
              have c2 : (s[k].toNat : Int) ≤ 57 := by omega
              clear hd
              go_wp2
              go_round
              case rel => exact ⟨k + 1, by omega, by go_num, dig_val hlt HD.out b0 b1, dig_step hlt HA.out HD.out⟩
              case measure => simp [intOf]; omega
            · have hd0 : isDig s[k] = false := by simpa using hd
              have HF : Hid (numBody s.data.toList = false) := numBody_at (k := k) (by simpa using hlt) (by rw [bget s k hlt]; exact hd0)
              rcases digNot hd0 with c1 | c1
              · clear hd hd0
                go_wp2
                go_ret2
                exact ⟨⟨_, by rw [HF.out]; rfl, fun h => by rw [HF.out] at h; simp at h⟩, rfl⟩
              · have c2 : ¬ ((s[k].toNat : Int) < 48) := by omega
                clear hd hd0
                go_wp2
                go_ret2
                exact ⟨⟨_, by rw [HF.out]; rfl, fun h => by rw [HF.out] at h; simp at h⟩, rfl⟩
          · have hke : s.data.toList.take k = s.data.toList := List.take_of_length_le (by simp; omega)
            have HF : Hid (numBody s.data.toList = true) := numBody_good (by simpa using hl1) (by simpa using hl2) HZ.out (fun i hi => by rw [bget s i (by simpa using hi)]; exact HA.out i _ (by simp at hi; omega))
            rw [hke] at b0 b1
            rw [hke]
            clear hke
            go_wp2
            go_ret2
            exact ⟨⟨_, by rw [HF.out]; rfl, fun _ => rfl⟩, rfl⟩
  · have HF : Hid (numBody s.data.toList = false) := numBody_len (by simpa using hl)
    have hl' : (s.size : Int) < 1 ∨ (4 : Int) < (s.size : Int) := by omega
    by_cases h1 : 1 < s.size
    · clear hl
      have hg := hneg (by omega); clear hneg hn
      go_enter Tryz.func20, Tryz.ntmps20
      go_wp2_with (go_at_call 39; refine (l1In_f _ _ _ _ hl').mono ?_; rintro e w' ⟨rfl, rfl⟩)
      go_ret2
      exact ⟨⟨_, by rw [HF.out]; rfl, fun h => by rw [HF.out] at h; simp at h⟩, rfl⟩
    · have h2 : s.size = 0 := by omega
      have hl' : ((0 : Nat) : Int) < 1 ∨ (4 : Int) < ((0 : Nat) : Int) := by omega
      clear hl
      clear hneg hn
      go_enter Tryz.func20, Tryz.ntmps20
      go_wp2_with (go_at_call 39; refine (l1In_f _ _ _ _ (by omega)).mono ?_; rintro e w' ⟨rfl, rfl⟩)
      go_ret2
      exact ⟨⟨_, by rw [HF.out]; rfl, fun h => by rw [HF.out] at h; simp at h⟩, rfl⟩
end Go.Proofs.YtbngjpnbjknliaaGreatDoor
