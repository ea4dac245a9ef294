/- The law of HistRead: both readers say the same, and what one gave out is its reader's own. -/
import Derived.Test.YtbngjpnbjknliaaGreatDoorJ19
import Derived.Test.YtbngjpnbjknliaaGreatDoorJ6
import Derived.Maps.AppendAt
import Derived.Test.YtbngjpnbjknliaaGreatDoorJ7
namespace Go.Proofs.YtbngjpnbjknliaaGreatDoor
set_option linter.unusedVariables false
set_option linter.unusedSimpArgs false
open Go.RowKit Go

/-- n marks, from k on. -/
def mN (k : Nat) : Nat → List Int
  | 0 => []
  | n + 1 => mN k n ++ [((k + n : Nat) : Int)]
theorem mN_len (k n : Nat) : (mN k n).length = n := by
  induction n with
  | zero => rfl
  | succ n ih => simp [mN, ih]
theorem mN_at (k n i : Nat) (h : i < (mN k n).length) : (mN k n)[i] = ((k + i : Nat) : Int) := by
  induction n with
  | zero => simp [mN] at h
  | succ n ih =>
    simp only [mN]
    by_cases hi : i < (mN k n).length
    · rw [List.getElem_append_left hi, ih hi]
    · have hl := mN_len k n
      have : i = n := by simp [mN] at h; omega
      subst this
      rw [List.getElem_append_right (by omega)]
      simp
theorem mN_mem {k n : Nat} {z : Int} (h : z ∈ mN k n) : (k : Int) ≤ z ∧ z < ((k + n : Nat) : Int) := by
  obtain ⟨i, hi, rfl⟩ := List.getElem_of_mem h
  rw [mN_at]
  have := mN_len k n
  omega
theorem set_mid {α : Type} (a b : List α) (x y : α) : (a ++ x :: b).set a.length y = a ++ y :: b := by simp

theorem own_setAt {w : World} {base : Nat} {e : TypeId} {size n g cap : Nat} {xs : List Value} (h : w.ownsRow base e size (.slice (some ⟨g, 0, none⟩) n cap) n xs) {i : Nat} (hi : i < n * size) (u : Value) : (w.setCell ⟨g, i, none⟩ u).ownsRow base e size (.slice (some ⟨g, 0, none⟩) n cap) n (xs.set i u) := by
  refine ⟨by rw [List.length_set]; exact h.1, .inr ?_⟩
  rcases h.2 with ⟨h0, _⟩ | ⟨g', cap', cur, h1, h2, h3, h4, h5, h6, h7⟩
  · cases h0
  · simp only [Value.slice.injEq, Option.some.injEq, Addr.mk.injEq, and_true, true_and] at h1
    obtain ⟨rfl, rfl⟩ := h1
    have hH : Holds w g e cur := h3
    refine ⟨g, cap, cur.setIfInBounds i u, rfl, h2, hH.set i u, h4, h5, by simpa using h6, ?_⟩
    rw [Array.toList_setIfInBounds, List.take_set, h7]
theorem own_cellAt {w : World} {base : Nat} {e : TypeId} {size n g cap : Nat} {xs : List Value} (h : w.ownsRow base e size (.slice (some ⟨g, 0, none⟩) n cap) n xs) {i : Nat} {u : Value} (hi : xs[i]? = some u) : w.cell? ⟨g, i, none⟩ = some u ∧ w.frozen? ⟨g, i, none⟩ = false := by
  rcases h.2 with ⟨h0, _⟩ | ⟨g', cap', cur, h1, h2, h3, h4, h5, h6, h7⟩
  · cases h0
  · simp only [Value.slice.injEq, Option.some.injEq, Addr.mk.injEq, and_true, true_and] at h1
    obtain ⟨rfl, rfl⟩ := h1
    have hH : Holds w g e cur := h3
    refine ⟨?_, hH.frozen i⟩
    rw [hH.cell i]
    rw [← h7, List.getElem?_take] at hi
    split at hi
    · simpa using hi
    · cases hi
theorem grown_setL (w : World) (g i : Nat) (u : Value) : w.grownBy (w.setCell ⟨g, i, none⟩ u) (some g) :=
  have hb := (Below.refl 0 w).setCell (p := ⟨g, i, none⟩) (Nat.zero_le _) u
  ⟨hb.os, hb.tape, hb.output, hb.size, fun k _ hk => Below.heap_setCell w ⟨g, i, none⟩ u k (fun e => hk (by rw [e]))⟩

set_option maxRecDepth 4000 in
set_option maxHeartbeats 1000000 in
theorem markIntS (v : Value) (base k : Nat) (nums : List Int) (w : World) (h : w.ownsRow base 3 1 v nums.length (nums.map (Value.int .i64))) (hk : k + nums.length ≤ 9223372036854775806) :
    Calls Tryz.prog 17 #[v, .int .i64 k] w fun e w' => e = .returned (.int .i64 ((k + nums.length : Nat) : Int)) ∧ w'.ownsRow base 3 1 v nums.length ((mN k nums.length).map (Value.int .i64)) ∧ w.grownBy w' v.ownBlock := by
  obtain ⟨a, c, rfl⟩ : ∃ a c, v = .slice a nums.length c := by
    rcases h.2 with ⟨rfl, h0⟩ | ⟨g, cap, cur, rfl, _⟩
    · exact ⟨none, 0, by rw [h0]⟩
    · exact ⟨_, _, rfl⟩
  have HO : Hid (w.ownsRow base 3 1 (.slice a nums.length c) nums.length (nums.map (Value.int .i64))) := h
  have hmx : nums.length ≤ 9223372036854775806 := by omega
  clear h
  go_enter Tryz.func17, Tryz.ntmps17
  go_wp2_with fail
  go_loopw [1, 5] (fun x i wr => ∃ q : Nat, x = .int .i64 ((k + q : Nat) : Int) ∧ i = .int .i64 q ∧ q ≤ nums.length ∧ wr.ownsRow base 3 1 (.slice a nums.length c) nums.length ((mN k q ++ nums.drop q).map (Value.int .i64)) ∧ w.grownBy wr (Value.slice a nums.length c).ownBlock) (fun _ i _ => nums.length - (intOf i).toNat)
  case atStart => exact ⟨0, rfl, rfl, Nat.zero_le _, by simpa [mN] using HO.out, ⟨rfl, rfl, rfl, Nat.le_refl _, fun _ _ _ => rfl⟩⟩
  case round =>
    obtain ⟨q, rfl, rfl, hq, hown, hg⟩ := hrel
    by_cases hlt : q < nums.length
    · obtain ⟨g, rfl⟩ : ∃ g, a = some ⟨g, 0, none⟩ := by
        rcases hown.2 with ⟨h0, h1⟩ | ⟨g, cap, cur, h1, _⟩
        · omega
        · simp only [Value.slice.injEq] at h1; exact ⟨g, h1.1⟩
      have hl := mN_len k q
      have hat : ((mN k q ++ nums.drop q).map (Value.int .i64))[q]? = some (.int .i64 nums[q]) := by
        rw [List.getElem?_map, List.getElem?_append_right (by omega), hl, Nat.sub_self, List.getElem?_drop]
        simp [hlt]
      obtain ⟨hc, hf⟩ := own_cellAt hown hat
      obtain ⟨cap, hcap⟩ : ∃ cap, nums.length ≤ cap ∧ c = cap := by
        rcases hown.2 with ⟨h0, h1⟩ | ⟨g, cap, cur, h1, _, _, h2, _⟩
        · omega
        · simp only [Value.slice.injEq] at h1; exact ⟨cap, h2, h1.2.2⟩
      obtain ⟨hcap, rfl⟩ := hcap
      have HOWN : Hid ((wr.setCell ⟨g, q, none⟩ (.int .i64 ((k + q : Nat) : Int))).ownsRow base 3 1 (.slice (some ⟨g, 0, none⟩) nums.length c) nums.length (((mN k q ++ nums.drop q).map (Value.int .i64)).set q (.int .i64 ((k + q : Nat) : Int)))) := own_setAt hown (i := q) (by omega) (.int .i64 ((k + q : Nat) : Int))
      have HG : Hid _ := hg.trans (grown_setL wr g q (.int .i64 ((k + q : Nat) : Int)))
      clear hown hg hat
      go_wp2_with fail
      go_roundw
      case rel =>
        refine ⟨q + 1, by go_num, by go_num, by omega, ?_, HG.out⟩
        have hm := set_mid ((mN k q).map (Value.int .i64)) ((nums.drop (q + 1)).map (Value.int .i64)) (.int .i64 nums[q]) (.int .i64 ((k + q : Nat) : Int))
        rw [List.length_map, hl] at hm
        have hl2 : (mN k (q + 1) ++ nums.drop (q + 1)).map (Value.int .i64) = ((mN k q ++ nums.drop q).map (Value.int .i64)).set q (.int .i64 ((k + q : Nat) : Int)) := by
          rw [List.drop_eq_getElem_cons hlt, List.map_append (l₁ := mN k q), List.map_cons, hm]
          simp [mN]
        rw [hl2]
        exact HOWN.out
      case measure => simp [intOf]; omega
    · have hqe : q = nums.length := by omega
      subst hqe
      go_wp2_with fail
      go_ret
      exact ⟨rfl, by simpa using hown, hg⟩
end Go.Proofs.YtbngjpnbjknliaaGreatDoor

namespace Go.Proofs.YtbngjpnbjknliaaGreatDoor
set_option linter.unusedVariables false
set_option linter.unusedSimpArgs false
open Go.RowKit Go

theorem mN_getD (k n i : Nat) (h : i < n) : (mN k n).getD i 0 = ((k + i : Nat) : Int) := by
  have hl := mN_len k n
  rw [List.getD_eq_getElem?_getD, List.getElem?_eq_getElem (by omega), Option.getD_some, mN_at]
set_option maxRecDepth 4000 in
set_option maxHeartbeats 1000000 in
theorem heldIntS (a : Option Addr) (len cap k n : Nat) (w : World) (h : IsRow .i64 w a len cap (mN k n)) (hk : k + n ≤ 9223372036854775806) :
    Calls Tryz.prog 18 #[.slice a len cap, .int .i64 k] w fun e w' => e = .returned (.int .i64 ((k + n : Nat) : Int)) ∧ Below w.heap.size w w' := by
  obtain ⟨hz, hm⟩ := h.len
  rw [mN_len] at hz
  subst hz
  have HR : Hid (IsRow .i64 w a n cap (mN k n)) := h
  clear h
  go_enter Tryz.func18, Tryz.ntmps18
  go_wp2_with fail
  go_loopw [1, 5] (fun x i wr => ∃ q : Nat, x = .int .i64 ((k + q : Nat) : Int) ∧ i = .int .i64 q ∧ q ≤ n ∧ wr = w) (fun _ i _ => n - (intOf i).toNat)
  case atStart => exact ⟨0, rfl, rfl, Nat.zero_le _, rfl⟩
  case round =>
    obtain ⟨q, rfl, rfl, hq, rfl⟩ := hrel
    by_cases hlt : q < n
    · obtain ⟨h1, h2, h3, h4, h5⟩ := HR.out
      obtain ⟨b, off, rfl, hb1, hc⟩ := h4 (by omega)
      have hc1 := hc q hlt
      rw [mN_getD k n q hlt] at hc1
      clear hc h5 h4 h1 HR
      go_wp2_with fail
      go_roundw
      case rel => exact ⟨q + 1, by go_num, by go_num, by omega, by first | rfl | trivial⟩
      case measure => simp [intOf]; omega
    · have hqe : q = n := by omega
      subst hqe
      go_wp2_with fail
      go_ret
      exact ⟨rfl, Below.refl _ _⟩

/-- An entry of n numbers, marked from k on. -/
def mE (n k : Nat) : Ent := ⟨(k : Int), ((k + 1 : Nat) : Int), mT (k + 2), mT (k + 3), mN (k + 4) n⟩
/-- The number behind the marks. -/
def mEnd : List Ent → Nat → Nat
  | [], k => k
  | e :: t, k => mEnd t (k + 4 + e.nums.length)
def mEs : List Ent → Nat → List Ent
  | [], _ => []
  | e :: t, k => mE e.nums.length k :: mEs t (k + 4 + e.nums.length)
theorem mEs_len : ∀ (es : List Ent) (k : Nat), (mEs es k).length = es.length := by
  intro es
  induction es with
  | nil => intro k; rfl
  | cons e t ih => intro k; simp [mEs, ih]
theorem mEs_at : ∀ (es : List Ent) (k q : Nat) (h : q < es.length) (h2 : q < (mEs es k).length), (mEs es k)[q] = mE es[q].nums.length (mEnd (es.take q) k) := by
  intro es
  induction es with
  | nil => intro k q h; simp at h
  | cons e t ih =>
    intro k q h h2
    cases q with
    | zero => rfl
    | succ q => simp only [mEs, List.getElem_cons_succ, List.take_succ_cons, mEnd]; exact ih _ _ (by simpa using h) _
theorem mEnd_step : ∀ (es : List Ent) (k q : Nat) (h : q < es.length), mEnd (es.take (q + 1)) k = mEnd (es.take q) k + 4 + es[q].nums.length := by
  intro es
  induction es with
  | nil => intro k q h; simp at h
  | cons e t ih =>
    intro k q h
    cases q with
    | zero => simp [mEnd]
    | succ q => simp only [List.getElem_cons_succ, List.take_succ_cons, mEnd]; exact ih _ _ (by simpa using h)
theorem mEnd_le : ∀ (es : List Ent) (k q : Nat), k ≤ mEnd (es.take q) k ∧ mEnd (es.take q) k ≤ mEnd es k := by
  intro es
  induction es with
  | nil => intro k q; simp [mEnd]
  | cons e t ih =>
    intro k q
    cases q with
    | zero => have := (ih (k + 4 + e.nums.length) t.length); rw [List.take_length] at this; simp only [List.take_zero, mEnd]; omega
    | succ q => have := ih (k + 4 + e.nums.length) q; simp only [List.take_succ_cons, mEnd]; omega

set_option maxRecDepth 4000 in
set_option maxHeartbeats 4000000 in
theorem heldHistEntryS (a : Option Addr) (len cap k : Nat) (es : List Ent) (w : World) (hr : IsEnts w a len cap (mEs es k)) (h1 : 1 ≤ k) (hk : mEnd es k ≤ 9223372036854775800) :
    Calls Tryz.prog 8 #[.slice a len cap, .int .i64 k] w fun e w' => e = .returned (.int .i64 ((mEnd es k : Nat) : Int)) ∧ Below w.heap.size w w' := by
  obtain ⟨hz, hm⟩ := IsRecs.len hr
  rw [mEs_len] at hz
  unfold maxLen at hm
  have HR : Hid (IsEnts w a len cap (mEs es k)) := hr
  clear hr
  go_enter Tryz.func8, Tryz.ntmps8
  go_wp2_with fail
  go_loopw [1, 5] (fun x i wr => ∃ q : Nat, x = .int .i64 ((mEnd (es.take q) k : Nat) : Int) ∧ i = .int .i64 q ∧ q ≤ len ∧ Below w.heap.size w wr) (fun _ i _ => len - (intOf i).toNat)
  case atStart => exact ⟨0, rfl, rfl, Nat.zero_le _, Below.refl _ _⟩
  case round =>
    obtain ⟨q, rfl, rfl, hq, hb⟩ := hrel
    by_cases hlt : q < len
    · obtain ⟨b1, off1, rfl, h1, hbl1, a1, l1, k1, c0, c1, c2, c3, c4, hrow1, _⟩ := IsEnts.at (IsEnts.below HR.out hb) (i := q) (by rw [mEs_len]; omega)
      have hle := mEnd_le es k (q + 1)
      have hst := mEnd_step es k q (by omega)
      have hlo := (mEnd_le es k q).1
      rw [mEs_at es k q (by omega)] at c0 c1 c2 c3 hrow1
      have HST : Hid _ := hst
      clear hst
      generalize hK : mEnd (es.take q) k = K at c0 c1 c2 c3 hrow1 hlo
      rw [HST.out, hK] at hle
      rw [hK] at HST
      clear hK
      generalize es[q].nums.length = N at *
      simp only [mE] at c0 c1 c2 c3 hrow1
      have HMT : Hid (∀ (z : Int) (x : Nat) w, z = (x : Int) → 1 ≤ x → x ≤ 9223372036854775807 → Calls Tryz.prog 16 #[.int .i64 z] w fun e w' => e = .returned (.string (mT x)) ∧ Below w.heap.size w w') := fun z x w e h h' => by subst e; exact markText x h h' w
      have HHI : Hid (∀ w', Below wr.heap.size wr w' → Calls Tryz.prog 18 #[.slice a1 l1 k1, .int .i64 ((K + 4 : Nat) : Int)] w' fun e w'' => e = .returned (.int .i64 ((K + 4 + N : Nat) : Int)) ∧ Below w'.heap.size w' w'') := fun w' hb' => heldIntS a1 l1 k1 (K + 4) N w' (hrow1.below hb') (by omega)
      clear hrow1
      go_wp2_with fail
      go_region_with (go_at_call 16; refine (HMT.out _ (K + 2) _ (by omega) (by omega) (by omega)).mono ?_; rintro e w2 ⟨rfl, hw2⟩; have i2 := (hw2.cell (p := ⟨b1, off1 + q * 5 + 2, none⟩) hbl1).trans c2)
      all_goals
        have hbl2 : b1 < w2.heap.size := Nat.lt_of_lt_of_le hbl1 hw2.size
        have c3' := (hw2.cell (p := ⟨b1, off1 + q * 5 + 3, none⟩) hbl1).trans c3
        have c4' := (hw2.cell (p := ⟨b1, off1 + q * 5 + 4, none⟩) hbl1).trans c4
        have HB2 : Hid (Below wr.heap.size wr w2) := undrewR hw2
        clear hw2 i2
        go_wp2_with fail
        go_region_with (go_at_call 16; refine (HMT.out _ (K + 3) _ (by omega) (by omega) (by omega)).mono ?_; rintro e w3 ⟨rfl, hw3⟩; have i3 := (hw3.cell (p := ⟨b1, off1 + q * 5 + 3, none⟩) hbl2).trans c3')
        all_goals
          have hbl3 : b1 < w3.heap.size := Nat.lt_of_lt_of_le hbl2 hw3.size
          have c4'' := (hw3.cell (p := ⟨b1, off1 + q * 5 + 4, none⟩) hbl2).trans c4'
          have HB3 : Hid (Below wr.heap.size wr w3) := bcall HB2.out HB2.out.size (undrewR hw3)
          clear hw3 i3
          go_wp2_with fail
          refine (HHI.out w3 HB3.out).mono ?_
          rintro e w4 ⟨rfl, hw4⟩
          have HB4 : Hid (Below w.heap.size w w4) := bcall (bcall hb hb.size HB3.out) (by have := hb.size; have := HB3.out.size; omega) hw4
          go_wp2_with fail
          go_roundw
          case rel => exact ⟨q + 1, by rw [HST.out]; simp, by go_num, by omega, HB4.out⟩
          case measure => simp [intOf]; omega
    · have hqe : q = es.length := by omega
      subst hqe
      rw [List.take_length] at *
      go_wp2_with fail
      go_ret
      exact ⟨rfl, hb⟩
end Go.Proofs.YtbngjpnbjknliaaGreatDoor

namespace Go.Proofs.YtbngjpnbjknliaaGreatDoor
set_option linter.unusedVariables false
set_option linter.unusedSimpArgs false
open Go.RowKit Go

/-- A row of entries, its cells F, and the entries' rows of numbers Ls. -/
structure GM (W : World) (base : Nat) (v : Value) (n : Nat) (vs F : List Value) (Ls : List (List Int)) : Prop where
  own : W.ownsRow base 32 5 v n F
  nums : ∀ i (h : i < vs.length) (h2 : i < Ls.length), W.ownsRow base 3 1 vs[i] Ls[i].length (Ls[i].map (Value.int .i64))
theorem GM.below {W W' : World} {base : Nat} {v : Value} {n : Nat} {vs F : List Value} {Ls : List (List Int)} (h : GM W base v n vs F Ls) (hb : Below W.heap.size W W') : GM W' base v n vs F Ls :=
  ⟨own_below h.own hb, fun i h1 h2 => own_below (h.nums i h1 h2) hb⟩
theorem own_HE {w : World} {base size n g cap : Nat} {xs : List Value} {t : TypeId} (h : w.ownsRow base t size (.slice (some ⟨g, 0, none⟩) n cap) n xs) : ∃ cur, w.heap[g]? = some (.cells cur t (0, 0)) := by
  rcases h.2 with ⟨h0, _⟩ | ⟨g', cap', cur, h1, h2, h3, _⟩
  · cases h0
  · simp only [Value.slice.injEq, Option.some.injEq, Addr.mk.injEq, and_true, true_and] at h1
    obtain ⟨rfl, rfl⟩ := h1
    exact ⟨cur, h3⟩
theorem GM.set {W : World} {base g cap n : Nat} {vs F : List Value} {Ls : List (List Int)} (h : GM W base (.slice (some ⟨g, 0, none⟩) n cap) n vs F Ls) {i : Nat} (hi : i < n * 5) (u : Value) : GM (W.setCell ⟨g, i, none⟩ u) base (.slice (some ⟨g, 0, none⟩) n cap) n vs (F.set i u) Ls := by
  refine ⟨own_setAt h.own hi u, fun j h1 h2 => own_rows (h.nums j h1 h2) fun k c fz hk => ?_⟩
  rw [Below.heap_setCell W ⟨g, i, none⟩ u k ?_]; · exact hk
  rintro rfl
  obtain ⟨cur, hg⟩ := own_HE h.own
  rw [hk] at hg
  simp at hg
theorem own_int_block {w : World} {base size n : Nat} {v : Value} {xs : List Value} {t : TypeId} (h : w.ownsRow base t size v n xs) {b : Nat} (hb : v.ownBlock = some b) : ∃ cur, w.heap[b]? = some (.cells cur t (0, 0)) := by
  rcases h.2 with ⟨rfl, _⟩ | ⟨g', cap', cur, rfl, h2, h3, _⟩
  · simp [Value.ownBlock] at hb
  · simp [Value.ownBlock] at hb; subst hb; exact ⟨cur, h3⟩
theorem GM.mark {W W' : World} {base : Nat} {v : Value} {n : Nat} {vs F : List Value} {Ls : List (List Int)} (h : GM W base v n vs F Ls) {q : Nat} (hq : q < vs.length) (hq2 : q < Ls.length) {L' : List Int} (h' : W'.ownsRow base 3 1 vs[q] L'.length (L'.map (Value.int .i64))) (hg : W.grownBy W' vs[q].ownBlock)
    (hd : ∀ i (hi : i < vs.length), i ≠ q → ∀ b, vs[i].ownBlock = some b → vs[q].ownBlock ≠ some b) : GM W' base v n vs F (Ls.set q L') := by
  refine ⟨own_rows h.own fun k c fz hk => (hg.block k (Array.getElem?_eq_some_iff.1 hk).1 fun e => ?_).trans hk, fun i h1 h2 => ?_⟩
  · obtain ⟨cur, hc⟩ := own_int_block (h.nums q hq hq2) e.symm
    rw [hk] at hc
    simp at hc
  · by_cases hi : i = q
    · subst hi
      simp only [List.getElem_set_self]
      exact h'
    · have hl : i < Ls.length := by simpa using h2
      rw [List.getElem_set_ne (Ne.symm hi)]
      have ho := h.nums i h1 hl
      refine ⟨ho.1, ?_⟩
      rcases ho.2 with x | ⟨g, cap, cur, e1, e2, e3, e4⟩
      · exact .inl x
      · refine .inr ⟨g, cap, cur, e1, e2, (hg.block g (Array.getElem?_eq_some_iff.1 e3).1 fun e => ?_).trans e3, e4⟩
        exact hd i h1 hi g (by rw [e1]; rfl) e.symm
theorem flat_set : ∀ (L : List Ent) (vs : List Value) (q : Nat) (_ : vs.length = L.length) (_ : q < L.length) (a b : Int) (c d : ByteArray) (ns : List Int),
    ((((flatE L vs).set (q * 5) (.int .i64 a)).set (q * 5 + 1) (.int .i64 b)).set (q * 5 + 2) (.string c)).set (q * 5 + 3) (.string d) = flatE (L.set q ⟨a, b, c, d, ns⟩) vs := by
  intro L
  induction L with
  | nil => intro vs q _ h; simp at h
  | cons e t ih =>
    intro vs q hv hq a b c d ns
    cases vs with
    | nil => simp at hv
    | cons v vs =>
      have hf : ∀ x : Ent, ∀ t, flatE (x :: t) (v :: vs) = cellsE x v ++ flatE t vs := fun _ _ => rfl
      cases q with
      | zero => simp [hf, cellsE]
      | succ q =>
        have h5 : ∀ x : Ent, (cellsE x v).length = 5 := fun _ => rfl
        rw [List.set_cons_succ, hf, hf, ← ih vs q (by simpa using hv) (by simpa using hq) a b c d ns]
        rw [List.set_append_right _ _ (by rw [h5]; omega), List.set_append_right _ _ (by rw [h5]; omega), List.set_append_right _ _ (by rw [h5]; omega), List.set_append_right _ _ (by rw [h5]; omega)]
        rw [h5, show (q + 1) * 5 - 5 = q * 5 by omega, show (q + 1) * 5 + 1 - 5 = q * 5 + 1 by omega, show (q + 1) * 5 + 2 - 5 = q * 5 + 2 by omega, show (q + 1) * 5 + 3 - 5 = q * 5 + 3 by omega]
/-- The entries, the first q of them marked. -/
def mUp (es : List Ent) (k q : Nat) : List Ent := mEs (es.take q) k ++ es.drop q
theorem mUp_len (es : List Ent) (k q : Nat) (h : q ≤ es.length) : (mUp es k q).length = es.length := by
  simp [mUp, mEs_len]; omega
theorem mEs_snoc : ∀ (es : List Ent) (k : Nat) (e : Ent), mEs (es ++ [e]) k = mEs es k ++ [mE e.nums.length (mEnd es k)] := by
  intro es
  induction es with
  | nil => intro k e; rfl
  | cons x t ih => intro k e; rw [List.cons_append, mEs, ih]; rfl
theorem mUp_at (es : List Ent) (k q : Nat) (h : q < es.length) (h2 : q < (mUp es k q).length) : (mUp es k q)[q] = es[q] := by
  have hl : (mEs (es.take q) k).length = q := by rw [mEs_len, List.length_take]; omega
  have this : (mUp es k q)[q]? = some es[q] := by
    unfold mUp
    rw [List.getElem?_append_right (by omega), hl, List.getElem?_drop]
    simp [h]
  rw [List.getElem?_eq_getElem h2] at this
  exact Option.some.inj this
theorem mUp_step (es : List Ent) (k q : Nat) (h : q < es.length) : mUp es k (q + 1) = (mUp es k q).set q (mE es[q].nums.length (mEnd (es.take q) k)) := by
  unfold mUp
  have hl : (mEs (es.take q) k).length = q := by rw [mEs_len, List.length_take]; omega
  rw [List.take_succ_eq_append_getElem h, mEs_snoc, List.drop_eq_getElem_cons h, List.append_assoc, List.singleton_append]
  have := set_mid (mEs (es.take q) k) (es.drop (q + 1)) es[q] (mE es[q].nums.length (mEnd (es.take q) k))
  rw [hl] at this
  exact this.symm
end Go.Proofs.YtbngjpnbjknliaaGreatDoor

namespace Go.Proofs.YtbngjpnbjknliaaGreatDoor
set_option linter.unusedVariables false
set_option linter.unusedSimpArgs false
open Go.RowKit Go

theorem wf_nat {z : Int} (h : 0 ≤ z ∧ z ≤ 9223372036854775807) : (Lit.int .i64 z).wf = true := by
  have e1 : IntKind.i64.min = -9223372036854775808 := by decide
  have e2 : IntKind.i64.max = 9223372036854775807 := by decide
  simp only [Lit.wf, e1, e2, Bool.and_eq_true, decide_eq_true_eq]; omega
theorem goodM (n k : Nat) (hk : k + 4 + n ≤ 9223372036854775800) : GoodE (mE n k) := by
  have h2 := mT_size (k + 2) (by omega)
  have h3 := mT_size (k + 3) (by omega)
  refine ⟨?_, ?_, ?_, ?_, ?_⟩
  · show (mT (k + 2)).size ≤ _; omega
  · show (mT (k + 3)).size ≤ _; omega
  · exact wf_nat (z := (k : Int)) (by omega)
  · exact wf_nat (z := ((k + 1 : Nat) : Int)) (by omega)
  · intro z hz
    have := mN_mem (k := k + 4) (n := n) hz
    exact wf_nat (by omega)

theorem gath_of {W : World} {base : Nat} {v : Value} {vs : List Value} {L : List Ent} (hv : vs.length = L.length) (h : GM W base v L.length vs (flatE L vs) (L.map Ent.nums)) (hg : ∀ i (hi : i < L.length), GoodE L[i])
    (hasc : ∀ i j (hi : i < vs.length) (hj : j < vs.length), i < j → ∀ b c, vs[i].ownBlock = some b → vs[j].ownBlock = some c → b < c) : Gath W base v L :=
  ⟨vs, hv, h.own, fun i hi => ⟨by have := h.nums i (by omega) (by simpa using hi); simpa using this, hg i hi⟩, hasc⟩

set_option maxRecDepth 4000 in
set_option maxHeartbeats 4000000 in
theorem markHistEntryS (v : Value) (base k : Nat) (es : List Ent) (w : World) (h : Gath w base v es) (h1 : 1 ≤ k) (hk : mEnd es k ≤ 9223372036854775800) (hbase : base ≤ w.heap.size) :
    Calls Tryz.prog 7 #[v, .int .i64 k] w fun e w' => e = .returned (.int .i64 ((mEnd es k : Nat) : Int)) ∧ Gath w' base v (mEs es k) ∧ Below base w w' := by
  obtain ⟨a, c, rfl⟩ : ∃ a c, v = .slice a es.length c := by
    obtain ⟨vs, hv, ho, _⟩ := h
    rcases ho.2 with ⟨rfl, h0⟩ | ⟨g, cap, cur, rfl, _⟩
    · exact ⟨none, 0, by rw [h0]⟩
    · exact ⟨_, _, rfl⟩
  have hmx : es.length ≤ 9223372036854775807 := by
    obtain ⟨vs, hv, ho, _⟩ := h
    rcases ho.2 with ⟨_, h0⟩ | ⟨g, cap, cur, _, _, _, h4, h5, _⟩
    · omega
    · unfold maxLen at h5; omega
  have HO : Hid (Gath w base (.slice a es.length c) es) := h
  have HMT : Hid (∀ (z : Int) (x : Nat) w, z = (x : Int) → 1 ≤ x → x ≤ 9223372036854775807 → Calls Tryz.prog 16 #[.int .i64 z] w fun e w' => e = .returned (.string (mT x)) ∧ Below w.heap.size w w') := fun z x w e h h' => by subst e; exact markText x h h' w
  clear h
  go_enter Tryz.func7, Tryz.ntmps7
  go_wp2_with fail
  go_loopw [1, 5] (fun x i wr => ∃ q : Nat, x = .int .i64 ((mEnd (es.take q) k : Nat) : Int) ∧ i = .int .i64 q ∧ q ≤ es.length ∧ Gath wr base (.slice a es.length c) (mUp es k q) ∧ Below base w wr) (fun _ i _ => es.length - (intOf i).toNat)
  case atStart => exact ⟨0, rfl, rfl, Nat.zero_le _, by simpa [mUp, mEs] using HO.out, Below.refl _ _⟩
  case round =>
    obtain ⟨q, rfl, rfl, hq, hG, hb⟩ := hrel
    by_cases hlt : q < es.length
    · obtain ⟨vs, hv, hown, hnums, hasc⟩ := hG
      have hul := mUp_len es k q hq
      have huq := mUp_at es k q hlt (by omega)
      have hus := mUp_step es k q hlt
      have hle := mEnd_le es k (q + 1)
      have hst := mEnd_step es k q hlt
      have hlo := (mEnd_le es k q).1
      have HST : Hid _ := hst
      have HUS : Hid _ := hus
      clear hst hus
      rw [hul] at hown
      obtain ⟨g, rfl⟩ : ∃ g, a = some ⟨g, 0, none⟩ := by
        rcases hown.2 with ⟨h0, h1⟩ | ⟨g, cap, cur, h1, _⟩
        · omega
        · simp only [Value.slice.injEq] at h1; exact ⟨g, h1.1⟩
      have hcap : es.length ≤ c := by
        rcases hown.2 with ⟨h0, h1⟩ | ⟨g, cap, cur, h1, _, _, h2, _⟩
        · omega
        · simp only [Value.slice.injEq] at h1; omega
      have hgb : base ≤ g := (hown.lt g rfl).1
      have hG0 : GM wr base (.slice (some ⟨g, 0, none⟩) es.length c) es.length vs (flatE (mUp es k q) vs) ((mUp es k q).map Ent.nums) := ⟨hown, fun i h1 h2 => by have := (hnums i (by omega)).1; simpa using this⟩
      have hfl : ∀ j, j < 5 → (flatE (mUp es k q) vs)[q * 5 + j]? = (cellsE es[q] (vs[q]'(by omega)))[j]? := fun j hj => by rw [flatE_at _ _ q j hv (by omega) hj, huq]
      obtain ⟨av, lv, cv, hvq⟩ : ∃ av lv cv, vs[q]'(by omega) = .slice av lv cv := by
        have := (hnums q (by omega)).1
        rcases this.2 with ⟨h0, _⟩ | ⟨g, cap, cur, h0, _⟩
        · exact ⟨_, _, _, h0⟩
        · exact ⟨_, _, _, h0⟩
      rw [hvq] at hfl
      obtain ⟨c0, f0⟩ := own_cellAt hown (hfl 0 (by omega))
      obtain ⟨c1, f1⟩ := own_cellAt hown (hfl 1 (by omega))
      rw [Nat.add_zero] at c0 f0
      have HNUM : Hid (∀ i (h : i < (mUp es k q).length), GoodE (mUp es k q)[i]) := fun i h => (hnums i h).2
      have HASC : Hid (∀ i j (hi : i < vs.length) (hj : j < vs.length), i < j → ∀ b c, vs[i].ownBlock = some b → vs[j].ownBlock = some c → b < c) := hasc
      have HFL : Hid _ := hfl
      have HG0 : Hid _ := hG0
      have HUQ : Hid _ := huq
      have hup : mEnd (es.take q) k + 4 + es[q].nums.length ≤ 9223372036854775800 := by have := HST.out; have := hle.2; omega
      clear hle
      generalize hK : mEnd (es.take q) k = K at hup hlo HST HUS
      have hK0 : (K : Int) ≤ 9223372036854775796 := by omega
      clear hown hnums hasc hfl hG0 huq
      have HG1 : Hid (GM ((wr.setCell ⟨g, q * 5, none⟩ (.int .i64 (K : Int))).setCell ⟨g, q * 5 + 1, none⟩ (.int .i64 ((K : Int) + 1))) base (.slice (some ⟨g, 0, none⟩) es.length c) es.length vs (((flatE (mUp es k q) vs).set (q * 5) (.int .i64 (K : Int))).set (q * 5 + 1) (.int .i64 ((K : Int) + 1))) ((mUp es k q).map Ent.nums)) := (GM.set HG0.out (i := q * 5) (by omega) (.int .i64 (K : Int))).set (i := q * 5 + 1) (by omega) (.int .i64 ((K : Int) + 1))
      have HB1 : Hid (Below base w ((wr.setCell ⟨g, q * 5, none⟩ (.int .i64 (K : Int))).setCell ⟨g, q * 5 + 1, none⟩ (.int .i64 ((K : Int) + 1)))) := (hb.setCell (p := ⟨g, q * 5, none⟩) hgb _).setCell (p := ⟨g, q * 5 + 1, none⟩) hgb _
      go_wp2_with fail
      refine (HMT.out _ (K + 2) _ (by omega) (by omega) (by omega)).mono ?_
      rintro e w2 ⟨rfl, hw2⟩
      have hG2 := GM.below HG1.out hw2
      have hB2 := bcall HB1.out (Nat.le_trans hbase HB1.out.size) hw2
      obtain ⟨d2, e2⟩ := own_cellAt hG2.own (i := q * 5 + 2) ((List.getElem?_set_ne (by omega)).trans ((List.getElem?_set_ne (by omega)).trans (HFL.out 2 (by omega))))
      have HG3 : Hid (GM (w2.setCell ⟨g, q * 5 + 2, none⟩ (.string (mT (K + 2)))) base (.slice (some ⟨g, 0, none⟩) es.length c) es.length vs _ ((mUp es k q).map Ent.nums)) := GM.set hG2 (i := q * 5 + 2) (by omega) (.string (mT (K + 2)))
      have HB3 : Hid (Below base w (w2.setCell ⟨g, q * 5 + 2, none⟩ (.string (mT (K + 2))))) := hB2.setCell (p := ⟨g, q * 5 + 2, none⟩) hgb _
      clear hG2 hB2 hw2 c0 c1 f0 f1
      go_wp2_with fail
      refine (HMT.out _ (K + 3) _ (by omega) (by omega) (by omega)).mono ?_
      rintro e w3 ⟨rfl, hw3⟩
      have hG4 := GM.below HG3.out hw3
      have hB4 := bcall HB3.out (Nat.le_trans hbase HB3.out.size) hw3
      obtain ⟨d3, e3⟩ := own_cellAt hG4.own (i := q * 5 + 3) ((List.getElem?_set_ne (by omega)).trans ((List.getElem?_set_ne (by omega)).trans ((List.getElem?_set_ne (by omega)).trans (HFL.out 3 (by omega)))))
      obtain ⟨d4, e4⟩ := own_cellAt hG4.own (i := q * 5 + 4) ((List.getElem?_set_ne (by omega)).trans ((List.getElem?_set_ne (by omega)).trans ((List.getElem?_set_ne (by omega)).trans (HFL.out 4 (by omega)))))
      have HG5 : Hid (GM (w3.setCell ⟨g, q * 5 + 3, none⟩ (.string (mT (K + 3)))) base (.slice (some ⟨g, 0, none⟩) es.length c) es.length vs _ ((mUp es k q).map Ent.nums)) := GM.set hG4 (i := q * 5 + 3) (by omega) (.string (mT (K + 3)))
      have HB5 : Hid (Below base w (w3.setCell ⟨g, q * 5 + 3, none⟩ (.string (mT (K + 3))))) := hB4.setCell (p := ⟨g, q * 5 + 3, none⟩) hgb _
      have HNQ : Hid ((w3.setCell ⟨g, q * 5 + 3, none⟩ (.string (mT (K + 3)))).ownsRow base 3 1 (.slice av lv cv) es[q].nums.length (es[q].nums.map (Value.int .i64))) := by
        have := HG5.out.nums q (by omega) (by simp; omega)
        simp only [List.getElem_map, HUQ.out, hvq] at this
        exact this
      have HMI : Hid (∀ (z : Int) W, z = ((K + 4 : Nat) : Int) → W.ownsRow base 3 1 (.slice av lv cv) es[q].nums.length (es[q].nums.map (Value.int .i64)) → Calls Tryz.prog 17 #[.slice av lv cv, .int .i64 z] W fun e w' => e = .returned (.int .i64 ((K + 4 + es[q].nums.length : Nat) : Int)) ∧ w'.ownsRow base 3 1 (.slice av lv cv) es[q].nums.length ((mN (K + 4) es[q].nums.length).map (Value.int .i64)) ∧ W.grownBy w' (Value.slice av lv cv).ownBlock) := fun z W e h => by subst e; exact markIntS _ base (K + 4) es[q].nums W h (by omega)
      clear hG4 hB4 hw3 d2 e2
      go_wp2_with fail
      refine (HMI.out _ _ (by omega) HNQ.out).mono ?_
      rintro e w4 ⟨rfl, hown4, hg4⟩
      have HB6 : Hid (Below base w w4) := HB5.out.trans ((Below.refl _ _).grown hg4 (Nat.le_trans hbase HB5.out.size) (fun b hb' => (HNQ.out.lt b hb').1))
      have hG6 := GM.mark HG5.out (q := q) (by omega) (by simp; omega) (L' := mN (K + 4) es[q].nums.length) (by rw [hvq, mN_len]; exact hown4) (by rw [hvq]; exact hg4) (fun i hi hne b h1 h2 => by
        rcases Nat.lt_or_gt_of_ne hne with hlt' | hgt
        · have := HASC.out i q hi (by omega) hlt' b b h1 h2; omega
        · have := HASC.out q i (by omega) hi hgt b b h2 h1; omega)
      have HG7 : Hid (Gath w4 base (.slice (some ⟨g, 0, none⟩) es.length c) (mUp es k (q + 1))) := by
        have e1 : mUp es k (q + 1) = (mUp es k q).set q (mE es[q].nums.length K) := HUS.out
        show Gath _ _ _ _
        rw [e1]
        refine gath_of (vs := vs) (by simpa using hv) ?_ ?_ HASC.out
        · have hf := flat_set (mUp es k q) vs q hv (by omega) (K : Int) ((K : Int) + 1) (mT (K + 2)) (mT (K + 3)) (mN (K + 4) es[q].nums.length)
          rw [hf] at hG6
          have hme : mE es[q].nums.length K = ⟨(K : Int), (K : Int) + 1, mT (K + 2), mT (K + 3), mN (K + 4) es[q].nums.length⟩ := by simp [mE]
          rw [hme, List.length_set, List.map_set, hul]
          exact hG6
        · intro i hi
          rw [List.getElem_set]
          split
          · exact goodM _ _ (by omega)
          · exact HNUM.out i (by simpa using hi)
      clear hown4 hg4 hG6
      go_wp2_with fail
      go_roundw
      case rel => exact ⟨q + 1, by rw [HST.out]; simp, by go_num, by omega, HG7.out, HB6.out⟩
      case measure => simp [intOf]; omega
    · have hqe : q = es.length := by omega
      subst hqe
      rw [List.take_length] at *
      go_wp2_with fail
      go_ret
      refine ⟨rfl, ?_, hb⟩
      have := hG
      unfold mUp at this
      rw [List.take_length, List.drop_length, List.append_nil] at this
      exact this
end Go.Proofs.YtbngjpnbjknliaaGreatDoor

namespace Go.Proofs.YtbngjpnbjknliaaGreatDoor
set_option linter.unusedVariables false
set_option linter.unusedSimpArgs false
open Go.RowKit Go

/-- What a text reads as. -/
def Fact (s : ByteArray) (ok : Bool) (es : List Ent) : Prop := (ok = true → IsText s es) ∧ (ok = false → es = [] ∧ ∀ L, ¬ IsText s L)
theorem text_inj {s : ByteArray} {a b : List Ent} (ha : IsText s a) (hb : IsText s b) : a = b := by
  have key : ∀ {x : List Ent}, IsText s x → readAll (linesOf s) = some x := fun {x} h => by
    obtain ⟨h1, rfl, _⟩ := h
    have hall := ents_all h1
    rw [histT_lines x hall.1, readAll_own x hall.1]
  have := (key ha).symm.trans (key hb)
  exact Option.some.inj this
theorem reads_fact {s : ByteArray} {w w' : World} {e : Ending} {ok : Bool} {es : List Ent} (h : ReadsPost s w e w') (hf : Fact s ok es) : ∃ v, e = .returned (.tuple #[v, .bool ok]) ∧ Gath w' w.heap.size v es ∧ Below w.heap.size w w' := by
  obtain ⟨v, ok2, rfl, hb, h1, h2⟩ := h
  cases ok2 with
  | true =>
    obtain ⟨hs, es2, hg, hr, hw⟩ := h1 rfl
    have ht := reads_yes hs hr hw
    cases ok with
    | true => rw [text_inj (hf.1 rfl) ht]; exact ⟨v, rfl, hg, hb⟩
    | false => exact absurd ht ((hf.2 rfl).2 _)
  | false =>
    obtain ⟨rfl, hn⟩ := h2 rfl
    have hno := reads_no hn
    cases ok with
    | true => exact absurd (hf.1 rfl) (hno _)
    | false => rw [(hf.2 rfl).1]; exact ⟨_, rfl, Gath.nil _ _, hb⟩
theorem mEnd_bd {B : Nat} : ∀ (es : List Ent) (k : Nat), (∀ e ∈ es, e.nums.length ≤ B) → mEnd es k ≤ k + (4 + B) * es.length := by
  intro es
  induction es with
  | nil => intro k _; simp [mEnd]
  | cons e t ih =>
    intro k h
    have h1 := ih (k + 4 + e.nums.length) (fun x hx => h x (List.mem_cons_of_mem _ hx))
    have h2 := h e (by simp)
    rw [mEnd, List.length_cons, Nat.mul_add]
    omega
theorem fact_end {s : ByteArray} {ok : Bool} {es : List Ent} (hf : Fact s ok es) : mEnd es 1 ≤ 1000000 := by
  cases ok with
  | true =>
    have h := ents_all (hf.1 rfl).1
    have := mEnd_bd (B := 400) es 1 (fun e he => by have := entOk_bd (h.1 e he); omega)
    omega
  | false => rw [(hf.2 rfl).1]; decide
theorem ents_low {w w' : World} {a : Option Addr} {len cap : Nat} {es : List Ent} (h : IsEnts w a len cap es) (hb : Below w.heap.size w w') : IsEnts w' a len cap es := h.below hb

set_option maxRecDepth 4000 in
set_option maxHeartbeats 4000000 in
theorem lawHistRead (s : ByteArray) (w : World) (he : Errs w) (ht : Tab w) :
    Calls Tryz.prog 3 #[.string s] w fun e w' => e = .returned (.bool true) ∧ Below w.heap.size w w' := by
  have HS : Hid (∀ w, s.size ≤ 1048576 → Calls Tryz.prog 4 #[.string s] w fun e w' => SpecPost s w e w') := fun w h => specHistRead (fun x w h => l21Line x w h) s w (by omega)
  have HI : Hid (∀ w', Below w.heap.size w w' → Calls Tryz.prog 5 #[.string s] w' fun e w'' => ReadsPost s w' e w'') := fun w' h => histReadP s w' (he.below h) (ht.below h)
  have HQ : Hid (∀ a b len cap cap2 es w, IsEnts w a len cap es → IsEnts w b len cap2 es → Calls Tryz.prog 6 #[.slice a len cap, .slice b len cap2] w fun e w' => e = .returned (.bool true) ∧ Below w.heap.size w w') := fun a b len cap cap2 es w h1 h2 => eqHistEntryS a b len cap cap2 es w h1 h2
  have HM : Hid (∀ v base es w, Gath w base v es → mEnd es 1 ≤ 1000000 → base ≤ w.heap.size → Calls Tryz.prog 7 #[v, .int .i64 1] w fun e w' => e = .returned (.int .i64 ((mEnd es 1 : Nat) : Int)) ∧ Gath w' base v (mEs es 1) ∧ Below base w w') := fun v base es w h1 h2 h3 => markHistEntryS v base 1 es w h1 (Nat.le_refl _) (by omega) h3
  have HH : Hid (∀ a len cap es w, IsEnts w a len cap (mEs es 1) → mEnd es 1 ≤ 1000000 → Calls Tryz.prog 8 #[.slice a len cap, .int .i64 1] w fun e w' => e = .returned (.int .i64 ((mEnd es 1 : Nat) : Int)) ∧ Below w.heap.size w w') := fun a len cap es w h1 h2 => heldHistEntryS a len cap 1 es w h1 (Nat.le_refl _) (by omega)
  clear he ht
  by_cases hbig : 1048576 < s.size
  · have hd : decide ((1048576 : Int) < (s.size : Int)) = true := decide_eq_true (by omega)
    go_enter Tryz.func3, Tryz.ntmps3
    go_wp2_with fail
    go_ret
    exact ⟨rfl, Below.refl _ _⟩
  · have hd : decide ((1048576 : Int) < (s.size : Int)) = false := decide_eq_false (by omega)
    go_enter Tryz.func3, Tryz.ntmps3
    go_wp2_with fail
    refine (HS.out _ (by omega)).mono ?_
    rintro e w1 ⟨a, l, c, ok, es, rfl, hb1, hents, hf1, hf2⟩
    have HF : Hid (Fact s ok es) := ⟨hf1, hf2⟩
    clear hf1 hf2
    have hend := fact_end HF.out
    have hlen : es.length = l := (IsRecs.len hents).1
    subst hlen
    go_wp2_with fail
    refine (HI.out _ hb1).mono ?_
    rintro e w2 hrd
    obtain ⟨v, rfl, hG, hb2⟩ := reads_fact hrd HF.out
    clear hrd
    obtain ⟨av, cv, rfl, hev⟩ := gath_ents hG
    have HG : Hid (Gath w2 w1.heap.size (.slice av es.length cv) es) := hG
    clear hG
    go_wp2_with fail
    refine (HQ.out _ _ _ _ _ es _ hev (hents.below hb2)).mono ?_
    rintro e w3 ⟨rfl, hb3⟩
    have hbb3 := bcall hb2 hb2.size hb3
    have HG3 : Hid (Gath w3 w1.heap.size (.slice av es.length cv) es) := Gath.same HG.out (SameT.below hb3)
    clear hev
    cases ok
    all_goals
      go_wp2_with fail
      refine (HM.out _ _ _ _ HG3.out hend hbb3.size).mono ?_
      rintro e w4 ⟨rfl, hG4, hb4⟩
      have hbb4 : Below w1.heap.size w1 w4 := hbb3.trans hb4
      obtain ⟨a4, c4, hv4, hev4⟩ := gath_ents hG4
      rw [mEs_len] at hv4 hev4
      simp only [Value.slice.injEq, true_and] at hv4
      obtain ⟨rfl, rfl⟩ := hv4
      clear hG4 hb4
      generalize hm : mEnd es 1 = m
      have hmm : (m : Int) ≤ 1000000 := by omega
      have HMM : Hid (mEnd es 1 = m) := hm
      clear hm
      go_wp2_with fail
      refine (HH.out _ _ _ es _ hev4 (by omega)).mono ?_
      rintro e w5 ⟨rfl, hb5⟩
      rw [HMM.out]
      have hev5 := hev4.below hb5
      have hbb5 := bcall hbb4 hbb4.size hb5
      clear hev4
      have hbw5 : Below w.heap.size w w5 := hb1.trans (hbb5.mono hb1.size)
      go_wp2_with fail
      refine (HI.out _ hbw5).mono ?_
      rintro e w6 hrd
      obtain ⟨v6, rfl, hG6, hb6⟩ := reads_fact hrd HF.out
      clear hrd
      obtain ⟨a6, c6, rfl, he6⟩ := gath_ents hG6
      have hbb6 := bcall hbb5 hbb5.size hb6
      have hev6 := hev5.below hb6
      clear hG6 hev5
      go_wp2_with fail
      refine (HQ.out _ _ _ _ _ es _ he6 (hents.below hbb6)).mono ?_
      rintro e w7 ⟨rfl, hb7⟩
      have hbb7 := bcall hbb6 hbb6.size hb7
      have hev7 := hev6.below hb7
      clear he6 hev6
      go_wp2_with fail
      refine (HH.out _ _ _ es _ hev7 (by omega)).mono ?_
      rintro e w8 ⟨rfl, hb8⟩
      rw [HMM.out]
      have hbb8 := bcall hbb7 hbb7.size hb8
      go_wp2_with fail
      go_ret
      exact ⟨rfl, hb1.trans (hbb8.mono hb1.size)⟩
end Go.Proofs.YtbngjpnbjknliaaGreatDoor
