/- Marks on rules: the state of a walk. -/
import Derived.Test.YtghocdiddolinaaGreatDoorJ5
namespace Go.Proofs.YtghocdiddolinaaGreatDoor
set_option linter.unusedVariables false
set_option linter.unusedSimpArgs false
open Go.RowKit Go
namespace Cal

/-- n marks, from k on. -/
def mN (k : Nat) : Nat → List Int
  | 0 => []
  | n + 1 => mN k n ++ [((k + n : Nat) : Int)]
theorem mN_len (k n : Nat) : (mN k n).length = n := by
  induction n with
  | zero => rfl
  | succ n ih => simp [mN, ih]
theorem mN_at (k n i : Nat) (h : i < (mN k n).length) : (mN k n)[i] = ((k + i : Nat) : Int) := by
  induction n with
  | zero => simp [mN] at h
  | succ n ih =>
    simp only [mN]
    by_cases hi : i < (mN k n).length
    · rw [List.getElem_append_left hi, ih hi]
    · have hl := mN_len k n
      have : i = n := by simp [mN] at h; omega
      subst this
      rw [List.getElem_append_right (by omega)]
      simp
theorem mN_mem {k n : Nat} {z : Int} (h : z ∈ mN k n) : (k : Int) ≤ z ∧ z < ((k + n : Nat) : Int) := by
  obtain ⟨i, hi, rfl⟩ := List.getElem_of_mem h
  rw [mN_at]
  have := mN_len k n
  omega
theorem set_mid {α : Type} (a b : List α) (x y : α) : (a ++ x :: b).set a.length y = a ++ y :: b := by simp

theorem own_setAt {w : World} {base : Nat} {e : TypeId} {size n g cap : Nat} {xs : List Value} (h : w.ownsRow base e size (.slice (some ⟨g, 0, none⟩) n cap) n xs) {i : Nat} (hi : i < n * size) (u : Value) : (w.setCell ⟨g, i, none⟩ u).ownsRow base e size (.slice (some ⟨g, 0, none⟩) n cap) n (xs.set i u) := by
  refine ⟨by rw [List.length_set]; exact h.1, .inr ?_⟩
  rcases h.2 with ⟨h0, _⟩ | ⟨g', cap', cur, h1, h2, h3, h4, h5, h6, h7⟩
  · cases h0
  · simp only [Value.slice.injEq, Option.some.injEq, Addr.mk.injEq, and_true, true_and] at h1
    obtain ⟨rfl, rfl⟩ := h1
    have hH : Holds w g e cur := h3
    refine ⟨g, cap, cur.setIfInBounds i u, rfl, h2, hH.set i u, h4, h5, by simpa using h6, ?_⟩
    rw [Array.toList_setIfInBounds, List.take_set, h7]
theorem own_cellAt {w : World} {base : Nat} {e : TypeId} {size n g cap : Nat} {xs : List Value} (h : w.ownsRow base e size (.slice (some ⟨g, 0, none⟩) n cap) n xs) {i : Nat} {u : Value} (hi : xs[i]? = some u) : w.cell? ⟨g, i, none⟩ = some u ∧ w.frozen? ⟨g, i, none⟩ = false := by
  rcases h.2 with ⟨h0, _⟩ | ⟨g', cap', cur, h1, h2, h3, h4, h5, h6, h7⟩
  · cases h0
  · simp only [Value.slice.injEq, Option.some.injEq, Addr.mk.injEq, and_true, true_and] at h1
    obtain ⟨rfl, rfl⟩ := h1
    have hH : Holds w g e cur := h3
    refine ⟨?_, hH.frozen i⟩
    rw [hH.cell i]
    rw [← h7, List.getElem?_take] at hi
    split at hi
    · simpa using hi
    · cases hi
theorem grown_set (w : World) (g i : Nat) (u : Value) : w.grownBy (w.setCell ⟨g, i, none⟩ u) (some g) :=
  have hb := (Below.refl 0 w).setCell (p := ⟨g, i, none⟩) (Nat.zero_le _) u
  ⟨hb.os, hb.tape, hb.output, hb.size, fun k _ hk => Below.heap_setCell w ⟨g, i, none⟩ u k (fun e => hk (by rw [e]))⟩

set_option maxRecDepth 4000 in
set_option maxHeartbeats 1000000 in
theorem markIntS (v : Value) (base k : Nat) (nums : List Int) (w : World) (h : w.ownsRow base 3 1 v nums.length (nums.map (Value.int .i64))) (hk : k + nums.length ≤ 9223372036854775806) :
    Calls Tryz.prog 35 #[v, .int .i64 k] w fun e w' => e = .returned (.int .i64 ((k + nums.length : Nat) : Int)) ∧ w'.ownsRow base 3 1 v nums.length ((mN k nums.length).map (Value.int .i64)) ∧ w.grownBy w' v.ownBlock := by
  obtain ⟨a, c, rfl⟩ : ∃ a c, v = .slice a nums.length c := by
    rcases h.2 with ⟨rfl, h0⟩ | ⟨g, cap, cur, rfl, _⟩
    · exact ⟨none, 0, by rw [h0]⟩
    · exact ⟨_, _, rfl⟩
  have HO : Hid (w.ownsRow base 3 1 (.slice a nums.length c) nums.length (nums.map (Value.int .i64))) := h
  have hmx : nums.length ≤ 9223372036854775806 := by omega
  clear h
  go_enter Tryz.func35, Tryz.ntmps35
  go_wp2_with fail
  go_loopw [1, 5] (fun x i wr => ∃ q : Nat, x = .int .i64 ((k + q : Nat) : Int) ∧ i = .int .i64 q ∧ q ≤ nums.length ∧ wr.ownsRow base 3 1 (.slice a nums.length c) nums.length ((mN k q ++ nums.drop q).map (Value.int .i64)) ∧ w.grownBy wr (Value.slice a nums.length c).ownBlock) (fun _ i _ => nums.length - (intOf i).toNat)
  case atStart => exact ⟨0, rfl, rfl, Nat.zero_le _, by simpa [mN] using HO.out, ⟨rfl, rfl, rfl, Nat.le_refl _, fun _ _ _ => rfl⟩⟩
  case round =>
    obtain ⟨q, rfl, rfl, hq, hown, hg⟩ := hrel
    by_cases hlt : q < nums.length
    · obtain ⟨g, rfl⟩ : ∃ g, a = some ⟨g, 0, none⟩ := by
        rcases hown.2 with ⟨h0, h1⟩ | ⟨g, cap, cur, h1, _⟩
        · omega
        · simp only [Value.slice.injEq] at h1; exact ⟨g, h1.1⟩
      have hl := mN_len k q
      have hat : ((mN k q ++ nums.drop q).map (Value.int .i64))[q]? = some (.int .i64 nums[q]) := by
        rw [List.getElem?_map, List.getElem?_append_right (by omega), hl, Nat.sub_self, List.getElem?_drop]
        simp [hlt]
      obtain ⟨hc, hf⟩ := own_cellAt hown hat
      obtain ⟨cap, hcap⟩ : ∃ cap, nums.length ≤ cap ∧ c = cap := by
        rcases hown.2 with ⟨h0, h1⟩ | ⟨g, cap, cur, h1, _, _, h2, _⟩
        · omega
        · simp only [Value.slice.injEq] at h1; exact ⟨cap, h2, h1.2.2⟩
      obtain ⟨hcap, rfl⟩ := hcap
      have HOWN : Hid ((wr.setCell ⟨g, q, none⟩ (.int .i64 ((k + q : Nat) : Int))).ownsRow base 3 1 (.slice (some ⟨g, 0, none⟩) nums.length c) nums.length (((mN k q ++ nums.drop q).map (Value.int .i64)).set q (.int .i64 ((k + q : Nat) : Int)))) := own_setAt hown (i := q) (by omega) (.int .i64 ((k + q : Nat) : Int))
      have HG : Hid _ := hg.trans (grown_set wr g q (.int .i64 ((k + q : Nat) : Int)))
      clear hown hg hat
      go_wp2_with fail
      go_roundw
      case rel =>
        refine ⟨q + 1, by go_num, by go_num, by omega, ?_, HG.out⟩
        have hm := set_mid ((mN k q).map (Value.int .i64)) ((nums.drop (q + 1)).map (Value.int .i64)) (.int .i64 nums[q]) (.int .i64 ((k + q : Nat) : Int))
        rw [List.length_map, hl] at hm
        have hl2 : (mN k (q + 1) ++ nums.drop (q + 1)).map (Value.int .i64) = ((mN k q ++ nums.drop q).map (Value.int .i64)).set q (.int .i64 ((k + q : Nat) : Int)) := by
          rw [List.drop_eq_getElem_cons hlt, List.map_append (l₁ := mN k q), List.map_cons, hm]
          simp [mN]
        rw [hl2]
        exact HOWN.out
      case measure => simp [intOf]; omega
    · have hqe : q = nums.length := by omega
      subst hqe
      go_wp2_with fail
      go_ret
      exact ⟨rfl, by simpa using hown, hg⟩
end Cal
end Go.Proofs.YtghocdiddolinaaGreatDoor

namespace Go.Proofs.YtghocdiddolinaaGreatDoor
set_option linter.unusedVariables false
set_option linter.unusedSimpArgs false
open Go.RowKit Go
namespace Cal

theorem mN_getD (k n i : Nat) (h : i < n) : (mN k n).getD i 0 = ((k + i : Nat) : Int) := by
  have hl := mN_len k n
  rw [List.getD_eq_getElem?_getD, List.getElem?_eq_getElem (by omega), Option.getD_some, mN_at]
set_option maxRecDepth 4000 in
set_option maxHeartbeats 1000000 in
theorem heldIntS (a : Option Addr) (len cap k n : Nat) (w : World) (h : IsRow .i64 w a len cap (mN k n)) (hk : k + n ≤ 9223372036854775806) :
    Calls Tryz.prog 37 #[.slice a len cap, .int .i64 k] w fun e w' => e = .returned (.int .i64 ((k + n : Nat) : Int)) ∧ Below w.heap.size w w' := by
  obtain ⟨hz, hm⟩ := h.len
  rw [mN_len] at hz
  subst hz
  have HR : Hid (IsRow .i64 w a n cap (mN k n)) := h
  clear h
  go_enter Tryz.func37, Tryz.ntmps37
  go_wp2_with fail
  go_loopw [1, 5] (fun x i wr => ∃ q : Nat, x = .int .i64 ((k + q : Nat) : Int) ∧ i = .int .i64 q ∧ q ≤ n ∧ wr = w) (fun _ i _ => n - (intOf i).toNat)
  case atStart => exact ⟨0, rfl, rfl, Nat.zero_le _, rfl⟩
  case round =>
    obtain ⟨q, rfl, rfl, hq, rfl⟩ := hrel
    by_cases hlt : q < n
    · obtain ⟨h1, h2, h3, h4, h5⟩ := HR.out
      obtain ⟨b, off, rfl, hb1, hc⟩ := h4 (by omega)
      have hc1 := hc q hlt
      rw [mN_getD k n q hlt] at hc1
      clear hc h5 h4 h1 HR
      go_wp2_with fail
      go_roundw
      case rel => exact ⟨q + 1, by go_num, by go_num, by omega, by first | rfl | trivial⟩
      case measure => simp [intOf]; omega
    · have hqe : q = n := by omega
      subst hqe
      go_wp2_with fail
      go_ret
      exact ⟨rfl, Below.refl _ _⟩

/-- An entry of n numbers, marked from k on. -/
def mE (n k : Nat) : Rul := ⟨(k : Int), ((k + 1 : Nat) : Int), ((k + 2 : Nat) : Int), ((k + 3 : Nat) : Int), mN (k + 4) n⟩
/-- The number behind the marks. -/
def mEnd : List Rul → Nat → Nat
  | [], k => k
  | e :: t, k => mEnd t (k + 4 + e.but.length)
def mEs : List Rul → Nat → List Rul
  | [], _ => []
  | e :: t, k => mE e.but.length k :: mEs t (k + 4 + e.but.length)
theorem mEs_len : ∀ (es : List Rul) (k : Nat), (mEs es k).length = es.length := by
  intro es
  induction es with
  | nil => intro k; rfl
  | cons e t ih => intro k; simp [mEs, ih]
theorem mEs_at : ∀ (es : List Rul) (k q : Nat) (h : q < es.length) (h2 : q < (mEs es k).length), (mEs es k)[q] = mE es[q].but.length (mEnd (es.take q) k) := by
  intro es
  induction es with
  | nil => intro k q h; simp at h
  | cons e t ih =>
    intro k q h h2
    cases q with
    | zero => rfl
    | succ q => simp only [mEs, List.getElem_cons_succ, List.take_succ_cons, mEnd]; exact ih _ _ (by simpa using h) _
theorem mEnd_step : ∀ (es : List Rul) (k q : Nat) (h : q < es.length), mEnd (es.take (q + 1)) k = mEnd (es.take q) k + 4 + es[q].but.length := by
  intro es
  induction es with
  | nil => intro k q h; simp at h
  | cons e t ih =>
    intro k q h
    cases q with
    | zero => simp [mEnd]
    | succ q => simp only [List.getElem_cons_succ, List.take_succ_cons, mEnd]; exact ih _ _ (by simpa using h)
theorem mEnd_le : ∀ (es : List Rul) (k q : Nat), k ≤ mEnd (es.take q) k ∧ mEnd (es.take q) k ≤ mEnd es k := by
  intro es
  induction es with
  | nil => intro k q; simp [mEnd]
  | cons e t ih =>
    intro k q
    cases q with
    | zero => have := (ih (k + 4 + e.but.length) t.length); rw [List.take_length] at this; simp only [List.take_zero, mEnd]; omega
    | succ q => have := ih (k + 4 + e.but.length) q; simp only [List.take_succ_cons, mEnd]; omega

set_option maxRecDepth 4000 in
set_option maxHeartbeats 4000000 in
theorem heldCalRuleS (a : Option Addr) (len cap k : Nat) (es : List Rul) (w : World) (hr : IsRuls w a len cap (mEs es k)) (h1 : 1 ≤ k) (hk : mEnd es k ≤ 9223372036854775800) :
    Calls Tryz.prog 36 #[.slice a len cap, .int .i64 k] w fun e w' => e = .returned (.int .i64 ((mEnd es k : Nat) : Int)) ∧ Below w.heap.size w w' := by
  obtain ⟨hz, hm⟩ := IsRecs.len hr
  rw [mEs_len] at hz
  unfold maxLen at hm
  have HR : Hid (IsRuls w a len cap (mEs es k)) := hr
  clear hr
  go_enter Tryz.func36, Tryz.ntmps36
  go_wp2_with fail
  go_loopw [1, 5] (fun x i wr => ∃ q : Nat, x = .int .i64 ((mEnd (es.take q) k : Nat) : Int) ∧ i = .int .i64 q ∧ q ≤ len ∧ Below w.heap.size w wr) (fun _ i _ => len - (intOf i).toNat)
  case atStart => exact ⟨0, rfl, rfl, Nat.zero_le _, Below.refl _ _⟩
  case round =>
    obtain ⟨q, rfl, rfl, hq, hb⟩ := hrel
    by_cases hlt : q < len
    · obtain ⟨b1, off1, rfl, h1, hbl1, a1, l1, k1, c0, c1, c2, c3, c4, hrow1, _⟩ := IsRuls.at (IsRuls.below HR.out hb) (i := q) (by rw [mEs_len]; omega)
      have hle := mEnd_le es k (q + 1)
      have hst := mEnd_step es k q (by omega)
      have hlo := (mEnd_le es k q).1
      rw [mEs_at es k q (by omega)] at c0 c1 c2 c3 hrow1
      have HST : Hid _ := hst
      clear hst
      generalize hK : mEnd (es.take q) k = K at c0 c1 c2 c3 hrow1 hlo
      rw [HST.out, hK] at hle
      rw [hK] at HST
      clear hK
      generalize es[q].but.length = N at *
      simp only [mE] at c0 c1 c2 c3 hrow1
      have HHI : Hid (∀ w', Below wr.heap.size wr w' → Calls Tryz.prog 37 #[.slice a1 l1 k1, .int .i64 ((K + 4 : Nat) : Int)] w' fun e w'' => e = .returned (.int .i64 ((K + 4 + N : Nat) : Int)) ∧ Below w'.heap.size w' w'') := fun w' hb' => heldIntS a1 l1 k1 (K + 4) N w' (hrow1.below hb') (by omega)
      clear hrow1
      go_wp2_with fail
      refine (HHI.out wr (Below.refl _ _)).mono ?_
      rintro e w4 ⟨rfl, hw4⟩
      have HB4 : Hid (Below w.heap.size w w4) := bcall hb hb.size hw4
      go_wp2_with fail
      go_roundw
      case rel => exact ⟨q + 1, by rw [HST.out]; simp, by go_num, by omega, HB4.out⟩
      case measure => simp [intOf]; omega
    · have hqe : q = es.length := by omega
      subst hqe
      rw [List.take_length] at *
      go_wp2_with fail
      go_ret
      exact ⟨rfl, hb⟩
end Cal
end Go.Proofs.YtghocdiddolinaaGreatDoor

namespace Go.Proofs.YtghocdiddolinaaGreatDoor
set_option linter.unusedVariables false
set_option linter.unusedSimpArgs false
open Go.RowKit Go
namespace Cal

/-- A row of entries, its cells F, and the entries' rows of numbers Ls. -/
structure GM (W : World) (base : Nat) (v : Value) (n : Nat) (vs F : List Value) (Ls : List (List Int)) : Prop where
  own : W.ownsRow base 73 5 v n F
  nums : ∀ i (h : i < vs.length) (h2 : i < Ls.length), W.ownsRow base 3 1 vs[i] Ls[i].length (Ls[i].map (Value.int .i64))
theorem GM.below {W W' : World} {base : Nat} {v : Value} {n : Nat} {vs F : List Value} {Ls : List (List Int)} (h : GM W base v n vs F Ls) (hb : Below W.heap.size W W') : GM W' base v n vs F Ls :=
  ⟨own_below h.own hb, fun i h1 h2 => own_below (h.nums i h1 h2) hb⟩
theorem own_HE {w : World} {base size n g cap : Nat} {xs : List Value} {t : TypeId} (h : w.ownsRow base t size (.slice (some ⟨g, 0, none⟩) n cap) n xs) : ∃ cur, w.heap[g]? = some (.cells cur t (0, 0)) := by
  rcases h.2 with ⟨h0, _⟩ | ⟨g', cap', cur, h1, h2, h3, _⟩
  · cases h0
  · simp only [Value.slice.injEq, Option.some.injEq, Addr.mk.injEq, and_true, true_and] at h1
    obtain ⟨rfl, rfl⟩ := h1
    exact ⟨cur, h3⟩
theorem GM.set {W : World} {base g cap n : Nat} {vs F : List Value} {Ls : List (List Int)} (h : GM W base (.slice (some ⟨g, 0, none⟩) n cap) n vs F Ls) {i : Nat} (hi : i < n * 5) (u : Value) : GM (W.setCell ⟨g, i, none⟩ u) base (.slice (some ⟨g, 0, none⟩) n cap) n vs (F.set i u) Ls := by
  refine ⟨own_setAt h.own hi u, fun j h1 h2 => own_rows (h.nums j h1 h2) fun k c fz hk => ?_⟩
  rw [Below.heap_setCell W ⟨g, i, none⟩ u k ?_]; · exact hk
  rintro rfl
  obtain ⟨cur, hg⟩ := own_HE h.own
  rw [hk] at hg
  simp at hg
theorem own_int_block {w : World} {base size n : Nat} {v : Value} {xs : List Value} {t : TypeId} (h : w.ownsRow base t size v n xs) {b : Nat} (hb : v.ownBlock = some b) : ∃ cur, w.heap[b]? = some (.cells cur t (0, 0)) := by
  rcases h.2 with ⟨rfl, _⟩ | ⟨g', cap', cur, rfl, h2, h3, _⟩
  · simp [Value.ownBlock] at hb
  · simp [Value.ownBlock] at hb; subst hb; exact ⟨cur, h3⟩
theorem GM.mark {W W' : World} {base : Nat} {v : Value} {n : Nat} {vs F : List Value} {Ls : List (List Int)} (h : GM W base v n vs F Ls) {q : Nat} (hq : q < vs.length) (hq2 : q < Ls.length) {L' : List Int} (h' : W'.ownsRow base 3 1 vs[q] L'.length (L'.map (Value.int .i64))) (hg : W.grownBy W' vs[q].ownBlock)
    (hd : ∀ i (hi : i < vs.length), i ≠ q → ∀ b, vs[i].ownBlock = some b → vs[q].ownBlock ≠ some b) : GM W' base v n vs F (Ls.set q L') := by
  refine ⟨own_rows h.own fun k c fz hk => (hg.block k (Array.getElem?_eq_some_iff.1 hk).1 fun e => ?_).trans hk, fun i h1 h2 => ?_⟩
  · obtain ⟨cur, hc⟩ := own_int_block (h.nums q hq hq2) e.symm
    rw [hk] at hc
    simp at hc
  · by_cases hi : i = q
    · subst hi
      simp only [List.getElem_set_self]
      exact h'
    · have hl : i < Ls.length := by simpa using h2
      rw [List.getElem_set_ne (Ne.symm hi)]
      have ho := h.nums i h1 hl
      refine ⟨ho.1, ?_⟩
      rcases ho.2 with x | ⟨g, cap, cur, e1, e2, e3, e4⟩
      · exact .inl x
      · refine .inr ⟨g, cap, cur, e1, e2, (hg.block g (Array.getElem?_eq_some_iff.1 e3).1 fun e => ?_).trans e3, e4⟩
        exact hd i h1 hi g (by rw [e1]; rfl) e.symm
theorem flat_set : ∀ (L : List Rul) (vs : List Value) (q : Nat) (_ : vs.length = L.length) (_ : q < L.length) (a b c d : Int) (ns : List Int),
    ((((flatR L vs).set (q * 5) (.int .i64 a)).set (q * 5 + 1) (.int .i64 b)).set (q * 5 + 2) (.int .i64 c)).set (q * 5 + 3) (.int .i64 d) = flatR (L.set q ⟨a, b, c, d, ns⟩) vs := by
  intro L
  induction L with
  | nil => intro vs q _ h; simp at h
  | cons e t ih =>
    intro vs q hv hq a b c d ns
    cases vs with
    | nil => simp at hv
    | cons v vs =>
      have hf : ∀ x : Rul, ∀ t, flatR (x :: t) (v :: vs) = cellsR x v ++ flatR t vs := fun _ _ => rfl
      cases q with
      | zero => simp [hf, cellsR]
      | succ q =>
        have h5 : ∀ x : Rul, (cellsR x v).length = 5 := fun _ => rfl
        rw [List.set_cons_succ, hf, hf, ← ih vs q (by simpa using hv) (by simpa using hq) a b c d ns]
        rw [List.set_append_right _ _ (by rw [h5]; omega), List.set_append_right _ _ (by rw [h5]; omega), List.set_append_right _ _ (by rw [h5]; omega), List.set_append_right _ _ (by rw [h5]; omega)]
        rw [h5, show (q + 1) * 5 - 5 = q * 5 by omega, show (q + 1) * 5 + 1 - 5 = q * 5 + 1 by omega, show (q + 1) * 5 + 2 - 5 = q * 5 + 2 by omega, show (q + 1) * 5 + 3 - 5 = q * 5 + 3 by omega]
/-- The entries, the first q of them marked. -/
def mUp (es : List Rul) (k q : Nat) : List Rul := mEs (es.take q) k ++ es.drop q
theorem mUp_len (es : List Rul) (k q : Nat) (h : q ≤ es.length) : (mUp es k q).length = es.length := by
  simp [mUp, mEs_len]; omega
theorem mEs_snoc : ∀ (es : List Rul) (k : Nat) (e : Rul), mEs (es ++ [e]) k = mEs es k ++ [mE e.but.length (mEnd es k)] := by
  intro es
  induction es with
  | nil => intro k e; rfl
  | cons x t ih => intro k e; rw [List.cons_append, mEs, ih]; rfl
theorem mUp_at (es : List Rul) (k q : Nat) (h : q < es.length) (h2 : q < (mUp es k q).length) : (mUp es k q)[q] = es[q] := by
  have hl : (mEs (es.take q) k).length = q := by rw [mEs_len, List.length_take]; omega
  have this : (mUp es k q)[q]? = some es[q] := by
    unfold mUp
    rw [List.getElem?_append_right (by omega), hl, List.getElem?_drop]
    simp [h]
  rw [List.getElem?_eq_getElem h2] at this
  exact Option.some.inj this
theorem mUp_step (es : List Rul) (k q : Nat) (h : q < es.length) : mUp es k (q + 1) = (mUp es k q).set q (mE es[q].but.length (mEnd (es.take q) k)) := by
  unfold mUp
  have hl : (mEs (es.take q) k).length = q := by rw [mEs_len, List.length_take]; omega
  rw [List.take_succ_eq_append_getElem h, mEs_snoc, List.drop_eq_getElem_cons h, List.append_assoc, List.singleton_append]
  have := set_mid (mEs (es.take q) k) (es.drop (q + 1)) es[q] (mE es[q].but.length (mEnd (es.take q) k))
  rw [hl] at this
  exact this.symm
end Cal
end Go.Proofs.YtghocdiddolinaaGreatDoor
