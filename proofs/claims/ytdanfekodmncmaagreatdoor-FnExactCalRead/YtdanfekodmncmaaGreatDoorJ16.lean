/- Marks on rules: held. -/
import Derived.Test.YtdanfekodmncmaaGreatDoorJ4
import Derived.WalkKit
import Derived.WalkSpells
import Derived.WalkLawsBesides
import Derived.Deep.OwnRows
import Derived.Test.YtdanfekodmncmaaGreatDoorJ6
import Derived.Test.YtdanfekodmncmaaGreatDoorJ14
namespace Go.Proofs.YtdanfekodmncmaaGreatDoor
set_option linter.unusedVariables false
set_option linter.unusedSimpArgs false
open Go.RowKit Go

set_option maxHeartbeats 400000 in
theorem eqIntS (a b : Option Addr) (len cap cap2 : Nat) (zs : List Int) (w : World) (hr : IsRow .i64 w a len cap zs) (hr2 : IsRow .i64 w b len cap2 zs) :
    Calls Tryz.prog 28 #[.slice a len cap, .slice b len cap2] w fun e w' => e = .returned (.bool true) ∧ Below w.heap.size w w' := by
  have hm := hr.len.2
  unfold maxLen at hm
  have HR : Hid (IsRow .i64 w a len cap zs) := hr
  have HR2 : Hid (IsRow .i64 w b len cap2 zs) := hr2
  clear hr hr2
  go_enter Tryz.func28, Tryz.ntmps28
  go_wp2
  go_loopw [5] (fun i wr => ∃ q m : Nat, i = .int .i64 q ∧ q ≤ len ∧ wr = w.drewN m) (fun i _ => len - (intOf i).toNat)
  case atStart => exact ⟨0, 0, rfl, Nat.zero_le _, rfl⟩
  case round =>
    obtain ⟨q, m, rfl, hq, hwr⟩ := hrel
    subst hwr
    by_cases hlt : q < len
    · obtain ⟨b3, off3, rfl, _, _, hc3⟩ := IsRow.at HR.out hlt
      obtain ⟨b4, off4, rfl, _, _, hc4⟩ := IsRow.at HR2.out hlt
      go_wp2_with fail
      go_quiet (fail)
      go_wp2_with fail
      go_roundw
      case rel => exact ⟨q + 1, _, by go_num, by omega, rfl⟩
      case measure => simp [intOf]; omega
    · go_wp2_with fail
      go_ret
      exact ⟨rfl, below_drewN (Below.refl _ _) _⟩
end Go.Proofs.YtdanfekodmncmaaGreatDoor

namespace Go.Proofs.YtdanfekodmncmaaGreatDoor
set_option linter.unusedVariables false
set_option linter.unusedSimpArgs false
open Go.RowKit Go

set_option maxHeartbeats 400000 in
theorem eqCalRule (ev at_ fr to_ : Int) (a b : Option Addr) (len cap cap2 : Nat) (zs : List Int) (w : World) (hr : IsRow .i64 w a len cap zs) (hr2 : IsRow .i64 w b len cap2 zs) :
    Calls Tryz.prog 14 #[.agg #[.int .i64 ev, .int .i64 at_, .int .i64 fr, .int .i64 to_, .slice a len cap], .agg #[.int .i64 ev, .int .i64 at_, .int .i64 fr, .int .i64 to_, .slice b len cap2]] w fun e w' => e = .returned (.bool true) ∧ Below w.heap.size w w' := by
  have HE : Hid (∀ w, IsRow .i64 w a len cap zs → IsRow .i64 w b len cap2 zs → Calls Tryz.prog 28 #[.slice a len cap, .slice b len cap2] w fun e w' => e = .returned (.bool true) ∧ Below w.heap.size w w') := fun w h1 h2 => eqIntS a b len cap cap2 zs w h1 h2
  have HR : Hid (IsRow .i64 w a len cap zs) := hr
  have HR2 : Hid (IsRow .i64 w b len cap2 zs) := hr2
  clear hr hr2
  go_enter Tryz.func14, Tryz.ntmps14
  go_wp2_with fail
  refine (HE.out _ (by exact (IsRow.alloc HR.out _).alloc _) (by exact (IsRow.alloc HR2.out _).alloc _)).mono ?_
  rintro e w1 ⟨rfl, hb⟩
  go_wp2_with fail
  go_ret
  exact ⟨rfl, bcall (((Below.refl _ _).alloc (Nat.le_refl _) _).alloc (by simp) _) (by simp; omega) hb⟩

set_option maxHeartbeats 400000 in
theorem eqCalRuleS (a b : Option Addr) (len cap cap2 : Nat) (rs : List Rul) (w : World) (hr : IsRuls w a len cap rs) (hr2 : IsRuls w b len cap2 rs) :
    Calls Tryz.prog 6 #[.slice a len cap, .slice b len cap2] w fun e w' => e = .returned (.bool true) ∧ Below w.heap.size w w' := by
  obtain ⟨hz, hm⟩ := IsRecs.len hr
  unfold maxLen at hm
  have HR : Hid (IsRuls w a len cap rs) := hr
  have HR2 : Hid (IsRuls w b len cap2 rs) := hr2
  clear hr hr2
  go_enter Tryz.func6, Tryz.ntmps6
  go_wp2
  go_loopw [5] (fun i wr => ∃ q : Nat, i = .int .i64 q ∧ q ≤ len ∧ Below w.heap.size w wr) (fun i _ => len - (intOf i).toNat)
  case atStart => exact ⟨0, rfl, Nat.zero_le _, Below.refl _ _⟩
  case round =>
    obtain ⟨q, rfl, hq, hb⟩ := hrel
    by_cases hlt : q < len
    · obtain ⟨b1, off1, rfl, h1, hbl1, a1, l1, k1, c0, c1, c2, c3, c4, hrow1, _⟩ := IsRuls.at (IsRuls.below HR.out hb) (i := q) (by omega)
      obtain ⟨b2, off2, rfl, h2, hbl2, a2, l2, k2, d0, d1, d2, d3, d4, hrow2, _⟩ := IsRuls.at (IsRuls.below HR2.out hb) (i := q) (by omega)
      have e1 := hrow1.len
      have e2 := hrow2.len
      have e12 : l2 = l1 := by omega
      subst e12
      have HE : Hid (∀ w', Below wr.heap.size wr w' → Calls Tryz.prog 14 #[.agg #[.int .i64 rs[q].ev, .int .i64 rs[q].at_, .int .i64 rs[q].fr, .int .i64 rs[q].to_, .slice a1 l2 k1], .agg #[.int .i64 rs[q].ev, .int .i64 rs[q].at_, .int .i64 rs[q].fr, .int .i64 rs[q].to_, .slice a2 l2 k2]] w' fun e w'' => e = .returned (.bool true) ∧ Below w'.heap.size w' w'') :=
        fun w' hb' => eqCalRule _ _ _ _ a1 a2 l2 k1 k2 rs[q].but w' (hrow1.below hb') (hrow2.below hb')
      go_wp2_with fail
      go_region_with (go_at_call 14; refine (HE.out _ (by first | exact Below.refl _ _ | exact (Below.refl _ _).drew)).mono ?_; rintro e w1 ⟨rfl, hw1⟩)
      all_goals
        go_wp2_with fail
        go_roundw
        case rel => exact ⟨q + 1, by go_num, by omega, bcall hb.drew hb.size hw1⟩
        case measure => simp [intOf]; omega
    · go_wp2_with fail
      go_ret
      exact ⟨rfl, hb⟩
end Go.Proofs.YtdanfekodmncmaaGreatDoor

namespace Go.Proofs.YtdanfekodmncmaaGreatDoor
set_option linter.unusedVariables false
set_option linter.unusedSimpArgs false
open Go.RowKit Go
namespace Cal
/-- What is good in an entry. -/
def GoodR (e : Rul) : Prop := (Lit.int .i64 e.ev).wf = true ∧ (Lit.int .i64 e.at_).wf = true ∧ (Lit.int .i64 e.fr).wf = true ∧ (Lit.int .i64 e.to_).wf = true ∧ ∀ z ∈ e.but, (Lit.int .i64 z).wf = true
/-- The slice v gathers the entries es, in blocks from base on, no two rows in one. -/
def Gath (w : World) (base : Nat) (v : Value) (es : List Rul) : Prop :=
  ∃ vs : List Value, ∃ hv : vs.length = es.length, w.ownsRow base 32 5 v es.length (flatR es vs) ∧
    (∀ i (h : i < es.length), w.ownsRow base 3 1 (vs[i]'(by omega)) es[i].but.length (es[i].but.map (Value.int .i64)) ∧ GoodR es[i]) ∧
    ∀ i j (hi : i < vs.length) (hj : j < vs.length), i < j → ∀ b c, vs[i].ownBlock = some b → vs[j].ownBlock = some c → b < c
theorem Gath.nil (w : World) (base : Nat) : Gath w base (.slice none 0 0) [] := ⟨[], rfl, World.ownsRow_nil _ _ _ _, fun i h => by simp at h, fun i j hi => by simp at hi⟩

/-- What was laid as rows of entries or of numbers stands. -/
structure SameT (W W' : World) : Prop where
  size : W.heap.size ≤ W'.heap.size
  rows : ∀ (k : Nat) (c : Array Value) (fz : Nat × Nat), W.heap[k]? = some (.cells c 32 fz) → W'.heap[k]? = some (.cells c 32 fz)
  nums : ∀ (k : Nat) (c : Array Value) (fz : Nat × Nat), W.heap[k]? = some (.cells c 3 fz) → W'.heap[k]? = some (.cells c 3 fz)
theorem own_rows {w w' : World} {base : Nat} {e : TypeId} {size : Nat} {v : Value} {n : Nat} {xs : List Value} (h : w.ownsRow base e size v n xs) (hk : ∀ (k : Nat) (c : Array Value) (fz : Nat × Nat), w.heap[k]? = some (.cells c e fz) → w'.heap[k]? = some (.cells c e fz)) : w'.ownsRow base e size v n xs := by
  refine ⟨h.1, ?_⟩
  rcases h.2 with h | ⟨g, cap, cur, h1, h2, h3, h4⟩
  · exact .inl h
  · exact .inr ⟨g, cap, cur, h1, h2, hk _ _ _ h3, h4⟩
theorem Gath.same {w w' : World} {base : Nat} {v : Value} {es : List Rul} (h : Gath w base v es) (hs : SameT w w') : Gath w' base v es := by
  obtain ⟨vs, hv, h1, h2, h3⟩ := h
  exact ⟨vs, hv, own_rows h1 hs.rows, fun i hi => ⟨own_rows (h2 i hi).1 hs.nums, (h2 i hi).2⟩, h3⟩
theorem SameT.below {w w' : World} (h : Below w.heap.size w w') : SameT w w' :=
  ⟨h.size, fun k c fz hk => (h.block k (Array.getElem?_eq_some_iff.1 hk).1).trans hk, fun k c fz hk => (h.block k (Array.getElem?_eq_some_iff.1 hk).1).trans hk⟩
theorem SameT.grown {w w' : World} {row : Option Nat} (hg : w.grownBy w' row) (hr : ∀ r, row = some r → ∀ c fz, w.heap[r]? ≠ some (.cells c 32 fz) ∧ w.heap[r]? ≠ some (.cells c 3 fz)) : SameT w w' :=
  ⟨hg.size, fun k c fz hk => (hg.block k (Array.getElem?_eq_some_iff.1 hk).1 (fun e => (hr k e.symm c fz).1 hk)).trans hk, fun k c fz hk => (hg.block k (Array.getElem?_eq_some_iff.1 hk).1 (fun e => (hr k e.symm c fz).2 hk)).trans hk⟩


theorem gath_ruls {w : World} {base : Nat} {v : Value} {es : List Rul} (h : Gath w base v es) : ∃ a cap, v = .slice a es.length cap ∧ IsRuls w a es.length cap es := by
  obtain ⟨vs, hv, h1, h2, _⟩ := h
  have hrow : ∀ i (hi : i < es.length), ∃ a l c, vs[i]'(by omega) = .slice a l c ∧ IsRow .i64 w a l c es[i].but := fun i hi => by
    obtain ⟨h3, h4⟩ := h2 i hi
    have hr := Row.owned h3
    obtain ⟨a, c, hf⟩ := hr.form
    rw [List.length_map] at hf
    rw [hf] at hr
    exact ⟨a, _, c, hf, (isRow_of_row hr h4.2.2.2.2).1⟩
  rcases h1.2 with ⟨rfl, h0⟩ | ⟨g, cap, cur, rfl, hb, hg, hle, hmx, hsz, htk⟩
  · have : es = [] := List.length_eq_zero_iff.1 h0
    subst this
    exact ⟨none, 0, rfl, rfl, Nat.le_refl _, Nat.zero_le _, fun h => by simp at h⟩
  · refine ⟨_, cap, rfl, rfl, hle, hmx, fun _ => ⟨g, 0, rfl, (Array.getElem?_eq_some_iff.1 hg).1, fun i hi => ?_⟩⟩
    obtain ⟨a, l, c, hvi, hri⟩ := hrow i hi
    refine ⟨cellsR es[i] (vs[i]'(by omega)), rfl, fun j hj => ?_, a, l, c, by rw [hvi]; rfl, hri, (h2 i hi).2.1, (h2 i hi).2.2.1, (h2 i hi).2.2.2.1, (h2 i hi).2.2.2.2.1⟩
    · have hj5 : j < 5 := by simpa [cellsR] using hj
      have hf := flatR_at es vs i j hv hi hj5
      rw [List.getElem?_eq_getElem hj] at hf
      rw [cell_of_row _ _ _ _ _ _ hg, Nat.zero_add]
      rw [← htk, List.getElem?_take] at hf
      split at hf
      · simpa using hf
      · cases hf
end Cal
end Go.Proofs.YtdanfekodmncmaaGreatDoor

namespace Go.Proofs.YtdanfekodmncmaaGreatDoor
set_option linter.unusedVariables false
set_option linter.unusedSimpArgs false
open Go.RowKit Go
namespace Cal

/-- n marks, from k on. -/
def mN (k : Nat) : Nat → List Int
  | 0 => []
  | n + 1 => mN k n ++ [((k + n : Nat) : Int)]
theorem mN_len (k n : Nat) : (mN k n).length = n := by
  induction n with
  | zero => rfl
  | succ n ih => simp [mN, ih]
theorem mN_at (k n i : Nat) (h : i < (mN k n).length) : (mN k n)[i] = ((k + i : Nat) : Int) := by
  induction n with
  | zero => simp [mN] at h
  | succ n ih =>
    simp only [mN]
    by_cases hi : i < (mN k n).length
    · rw [List.getElem_append_left hi, ih hi]
    · have hl := mN_len k n
      have : i = n := by simp [mN] at h; omega
      subst this
      rw [List.getElem_append_right (by omega)]
      simp
theorem mN_mem {k n : Nat} {z : Int} (h : z ∈ mN k n) : (k : Int) ≤ z ∧ z < ((k + n : Nat) : Int) := by
  obtain ⟨i, hi, rfl⟩ := List.getElem_of_mem h
  rw [mN_at]
  have := mN_len k n
  omega
theorem set_mid {α : Type} (a b : List α) (x y : α) : (a ++ x :: b).set a.length y = a ++ y :: b := by simp

theorem own_setAt {w : World} {base : Nat} {e : TypeId} {size n g cap : Nat} {xs : List Value} (h : w.ownsRow base e size (.slice (some ⟨g, 0, none⟩) n cap) n xs) {i : Nat} (hi : i < n * size) (u : Value) : (w.setCell ⟨g, i, none⟩ u).ownsRow base e size (.slice (some ⟨g, 0, none⟩) n cap) n (xs.set i u) := by
  refine ⟨by rw [List.length_set]; exact h.1, .inr ?_⟩
  rcases h.2 with ⟨h0, _⟩ | ⟨g', cap', cur, h1, h2, h3, h4, h5, h6, h7⟩
  · cases h0
  · simp only [Value.slice.injEq, Option.some.injEq, Addr.mk.injEq, and_true, true_and] at h1
    obtain ⟨rfl, rfl⟩ := h1
    have hH : Holds w g e cur := h3
    refine ⟨g, cap, cur.setIfInBounds i u, rfl, h2, hH.set i u, h4, h5, by simpa using h6, ?_⟩
    rw [Array.toList_setIfInBounds, List.take_set, h7]
theorem own_cellAt {w : World} {base : Nat} {e : TypeId} {size n g cap : Nat} {xs : List Value} (h : w.ownsRow base e size (.slice (some ⟨g, 0, none⟩) n cap) n xs) {i : Nat} {u : Value} (hi : xs[i]? = some u) : w.cell? ⟨g, i, none⟩ = some u ∧ w.frozen? ⟨g, i, none⟩ = false := by
  rcases h.2 with ⟨h0, _⟩ | ⟨g', cap', cur, h1, h2, h3, h4, h5, h6, h7⟩
  · cases h0
  · simp only [Value.slice.injEq, Option.some.injEq, Addr.mk.injEq, and_true, true_and] at h1
    obtain ⟨rfl, rfl⟩ := h1
    have hH : Holds w g e cur := h3
    refine ⟨?_, hH.frozen i⟩
    rw [hH.cell i]
    rw [← h7, List.getElem?_take] at hi
    split at hi
    · simpa using hi
    · cases hi
theorem grown_set (w : World) (g i : Nat) (u : Value) : w.grownBy (w.setCell ⟨g, i, none⟩ u) (some g) :=
  have hb := (Below.refl 0 w).setCell (p := ⟨g, i, none⟩) (Nat.zero_le _) u
  ⟨hb.os, hb.tape, hb.output, hb.size, fun k _ hk => Below.heap_setCell w ⟨g, i, none⟩ u k (fun e => hk (by rw [e]))⟩

set_option maxRecDepth 4000 in
set_option maxHeartbeats 1000000 in
theorem markIntS (v : Value) (base k : Nat) (nums : List Int) (w : World) (h : w.ownsRow base 3 1 v nums.length (nums.map (Value.int .i64))) (hk : k + nums.length ≤ 9223372036854775806) :
    Calls Tryz.prog 15 #[v, .int .i64 k] w fun e w' => e = .returned (.int .i64 ((k + nums.length : Nat) : Int)) ∧ w'.ownsRow base 3 1 v nums.length ((mN k nums.length).map (Value.int .i64)) ∧ w.grownBy w' v.ownBlock := by
  obtain ⟨a, c, rfl⟩ : ∃ a c, v = .slice a nums.length c := by
    rcases h.2 with ⟨rfl, h0⟩ | ⟨g, cap, cur, rfl, _⟩
    · exact ⟨none, 0, by rw [h0]⟩
    · exact ⟨_, _, rfl⟩
  have HO : Hid (w.ownsRow base 3 1 (.slice a nums.length c) nums.length (nums.map (Value.int .i64))) := h
  have hmx : nums.length ≤ 9223372036854775806 := by omega
  clear h
  go_enter Tryz.func15, Tryz.ntmps15
  go_wp2_with fail
  go_loopw [1, 5] (fun x i wr => ∃ q : Nat, x = .int .i64 ((k + q : Nat) : Int) ∧ i = .int .i64 q ∧ q ≤ nums.length ∧ wr.ownsRow base 3 1 (.slice a nums.length c) nums.length ((mN k q ++ nums.drop q).map (Value.int .i64)) ∧ w.grownBy wr (Value.slice a nums.length c).ownBlock) (fun _ i _ => nums.length - (intOf i).toNat)
  case atStart => exact ⟨0, rfl, rfl, Nat.zero_le _, by simpa [mN] using HO.out, ⟨rfl, rfl, rfl, Nat.le_refl _, fun _ _ _ => rfl⟩⟩
  case round =>
    obtain ⟨q, rfl, rfl, hq, hown, hg⟩ := hrel
    by_cases hlt : q < nums.length
    · obtain ⟨g, rfl⟩ : ∃ g, a = some ⟨g, 0, none⟩ := by
        rcases hown.2 with ⟨h0, h1⟩ | ⟨g, cap, cur, h1, _⟩
        · omega
        · simp only [Value.slice.injEq] at h1; exact ⟨g, h1.1⟩
      have hl := mN_len k q
      have hat : ((mN k q ++ nums.drop q).map (Value.int .i64))[q]? = some (.int .i64 nums[q]) := by
        rw [List.getElem?_map, List.getElem?_append_right (by omega), hl, Nat.sub_self, List.getElem?_drop]
        simp [hlt]
      obtain ⟨hc, hf⟩ := own_cellAt hown hat
      obtain ⟨cap, hcap⟩ : ∃ cap, nums.length ≤ cap ∧ c = cap := by
        rcases hown.2 with ⟨h0, h1⟩ | ⟨g, cap, cur, h1, _, _, h2, _⟩
        · omega
        · simp only [Value.slice.injEq] at h1; exact ⟨cap, h2, h1.2.2⟩
      obtain ⟨hcap, rfl⟩ := hcap
      have HOWN : Hid ((wr.setCell ⟨g, q, none⟩ (.int .i64 ((k + q : Nat) : Int))).ownsRow base 3 1 (.slice (some ⟨g, 0, none⟩) nums.length c) nums.length (((mN k q ++ nums.drop q).map (Value.int .i64)).set q (.int .i64 ((k + q : Nat) : Int)))) := own_setAt hown (i := q) (by omega) (.int .i64 ((k + q : Nat) : Int))
      have HG : Hid _ := hg.trans (grown_set wr g q (.int .i64 ((k + q : Nat) : Int)))
      clear hown hg hat
      go_wp2_with fail
      go_roundw
      case rel =>
        refine ⟨q + 1, by go_num, by go_num, by omega, ?_, HG.out⟩
        have hm := set_mid ((mN k q).map (Value.int .i64)) ((nums.drop (q + 1)).map (Value.int .i64)) (.int .i64 nums[q]) (.int .i64 ((k + q : Nat) : Int))
        rw [List.length_map, hl] at hm
        have hl2 : (mN k (q + 1) ++ nums.drop (q + 1)).map (Value.int .i64) = ((mN k q ++ nums.drop q).map (Value.int .i64)).set q (.int .i64 ((k + q : Nat) : Int)) := by
          rw [List.drop_eq_getElem_cons hlt, List.map_append (l₁ := mN k q), List.map_cons, hm]
          simp [mN]
        rw [hl2]
        exact HOWN.out
      case measure => simp [intOf]; omega
    · have hqe : q = nums.length := by omega
      subst hqe
      go_wp2_with fail
      go_ret
      exact ⟨rfl, by simpa using hown, hg⟩
end Cal
end Go.Proofs.YtdanfekodmncmaaGreatDoor

namespace Go.Proofs.YtdanfekodmncmaaGreatDoor
set_option linter.unusedVariables false
set_option linter.unusedSimpArgs false
open Go.RowKit Go
namespace Cal

theorem mN_getD (k n i : Nat) (h : i < n) : (mN k n).getD i 0 = ((k + i : Nat) : Int) := by
  have hl := mN_len k n
  rw [List.getD_eq_getElem?_getD, List.getElem?_eq_getElem (by omega), Option.getD_some, mN_at]
set_option maxRecDepth 4000 in
set_option maxHeartbeats 1000000 in
theorem heldIntS (a : Option Addr) (len cap k n : Nat) (w : World) (h : IsRow .i64 w a len cap (mN k n)) (hk : k + n ≤ 9223372036854775806) :
    Calls Tryz.prog 16 #[.slice a len cap, .int .i64 k] w fun e w' => e = .returned (.int .i64 ((k + n : Nat) : Int)) ∧ Below w.heap.size w w' := by
  obtain ⟨hz, hm⟩ := h.len
  rw [mN_len] at hz
  subst hz
  have HR : Hid (IsRow .i64 w a n cap (mN k n)) := h
  clear h
  go_enter Tryz.func16, Tryz.ntmps16
  go_wp2_with fail
  go_loopw [1, 5] (fun x i wr => ∃ q : Nat, x = .int .i64 ((k + q : Nat) : Int) ∧ i = .int .i64 q ∧ q ≤ n ∧ wr = w) (fun _ i _ => n - (intOf i).toNat)
  case atStart => exact ⟨0, rfl, rfl, Nat.zero_le _, rfl⟩
  case round =>
    obtain ⟨q, rfl, rfl, hq, rfl⟩ := hrel
    by_cases hlt : q < n
    · obtain ⟨h1, h2, h3, h4, h5⟩ := HR.out
      obtain ⟨b, off, rfl, hb1, hc⟩ := h4 (by omega)
      have hc1 := hc q hlt
      rw [mN_getD k n q hlt] at hc1
      clear hc h5 h4 h1 HR
      go_wp2_with fail
      go_roundw
      case rel => exact ⟨q + 1, by go_num, by go_num, by omega, by first | rfl | trivial⟩
      case measure => simp [intOf]; omega
    · have hqe : q = n := by omega
      subst hqe
      go_wp2_with fail
      go_ret
      exact ⟨rfl, Below.refl _ _⟩

/-- An entry of n numbers, marked from k on. -/
def mE (n k : Nat) : Rul := ⟨(k : Int), ((k + 1 : Nat) : Int), ((k + 2 : Nat) : Int), ((k + 3 : Nat) : Int), mN (k + 4) n⟩
/-- The number behind the marks. -/
def mEnd : List Rul → Nat → Nat
  | [], k => k
  | e :: t, k => mEnd t (k + 4 + e.but.length)
def mEs : List Rul → Nat → List Rul
  | [], _ => []
  | e :: t, k => mE e.but.length k :: mEs t (k + 4 + e.but.length)
theorem mEs_len : ∀ (es : List Rul) (k : Nat), (mEs es k).length = es.length := by
  intro es
  induction es with
  | nil => intro k; rfl
  | cons e t ih => intro k; simp [mEs, ih]
theorem mEs_at : ∀ (es : List Rul) (k q : Nat) (h : q < es.length) (h2 : q < (mEs es k).length), (mEs es k)[q] = mE es[q].but.length (mEnd (es.take q) k) := by
  intro es
  induction es with
  | nil => intro k q h; simp at h
  | cons e t ih =>
    intro k q h h2
    cases q with
    | zero => rfl
    | succ q => simp only [mEs, List.getElem_cons_succ, List.take_succ_cons, mEnd]; exact ih _ _ (by simpa using h) _
theorem mEnd_step : ∀ (es : List Rul) (k q : Nat) (h : q < es.length), mEnd (es.take (q + 1)) k = mEnd (es.take q) k + 4 + es[q].but.length := by
  intro es
  induction es with
  | nil => intro k q h; simp at h
  | cons e t ih =>
    intro k q h
    cases q with
    | zero => simp [mEnd]
    | succ q => simp only [List.getElem_cons_succ, List.take_succ_cons, mEnd]; exact ih _ _ (by simpa using h)
theorem mEnd_le : ∀ (es : List Rul) (k q : Nat), k ≤ mEnd (es.take q) k ∧ mEnd (es.take q) k ≤ mEnd es k := by
  intro es
  induction es with
  | nil => intro k q; simp [mEnd]
  | cons e t ih =>
    intro k q
    cases q with
    | zero => have := (ih (k + 4 + e.but.length) t.length); rw [List.take_length] at this; simp only [List.take_zero, mEnd]; omega
    | succ q => have := ih (k + 4 + e.but.length) q; simp only [List.take_succ_cons, mEnd]; omega

set_option maxRecDepth 4000 in
set_option maxHeartbeats 4000000 in
theorem heldCalRuleS (a : Option Addr) (len cap k : Nat) (es : List Rul) (w : World) (hr : IsRuls w a len cap (mEs es k)) (h1 : 1 ≤ k) (hk : mEnd es k ≤ 9223372036854775800) :
    Calls Tryz.prog 8 #[.slice a len cap, .int .i64 k] w fun e w' => e = .returned (.int .i64 ((mEnd es k : Nat) : Int)) ∧ Below w.heap.size w w' := by
  obtain ⟨hz, hm⟩ := IsRecs.len hr
  rw [mEs_len] at hz
  unfold maxLen at hm
  have HR : Hid (IsRuls w a len cap (mEs es k)) := hr
  clear hr
  go_enter Tryz.func8, Tryz.ntmps8
  go_wp2_with fail
  go_loopw [1, 5] (fun x i wr => ∃ q : Nat, x = .int .i64 ((mEnd (es.take q) k : Nat) : Int) ∧ i = .int .i64 q ∧ q ≤ len ∧ Below w.heap.size w wr) (fun _ i _ => len - (intOf i).toNat)
  case atStart => exact ⟨0, rfl, rfl, Nat.zero_le _, Below.refl _ _⟩
  case round =>
    obtain ⟨q, rfl, rfl, hq, hb⟩ := hrel
    by_cases hlt : q < len
    · obtain ⟨b1, off1, rfl, h1, hbl1, a1, l1, k1, c0, c1, c2, c3, c4, hrow1, _⟩ := IsRuls.at (IsRuls.below HR.out hb) (i := q) (by rw [mEs_len]; omega)
      have hle := mEnd_le es k (q + 1)
      have hst := mEnd_step es k q (by omega)
      have hlo := (mEnd_le es k q).1
      rw [mEs_at es k q (by omega)] at c0 c1 c2 c3 hrow1
      have HST : Hid _ := hst
      clear hst
      generalize hK : mEnd (es.take q) k = K at c0 c1 c2 c3 hrow1 hlo
      rw [HST.out, hK] at hle
      rw [hK] at HST
      clear hK
      generalize es[q].but.length = N at *
      simp only [mE] at c0 c1 c2 c3 hrow1
      have HHI : Hid (∀ w', Below wr.heap.size wr w' → Calls Tryz.prog 16 #[.slice a1 l1 k1, .int .i64 ((K + 4 : Nat) : Int)] w' fun e w'' => e = .returned (.int .i64 ((K + 4 + N : Nat) : Int)) ∧ Below w'.heap.size w' w'') := fun w' hb' => heldIntS a1 l1 k1 (K + 4) N w' (hrow1.below hb') (by omega)
      clear hrow1
      go_wp2_with fail
      refine (HHI.out wr (Below.refl _ _)).mono ?_
      rintro e w4 ⟨rfl, hw4⟩
      have HB4 : Hid (Below w.heap.size w w4) := bcall hb hb.size hw4
      go_wp2_with fail
      go_roundw
      case rel => exact ⟨q + 1, by rw [HST.out]; simp, by go_num, by omega, HB4.out⟩
      case measure => simp [intOf]; omega
    · have hqe : q = es.length := by omega
      subst hqe
      rw [List.take_length] at *
      go_wp2_with fail
      go_ret
      exact ⟨rfl, hb⟩
end Cal
end Go.Proofs.YtdanfekodmncmaaGreatDoor
