/- The law marks rules that were gathered: what lies in other blocks stands. -/
import Derived.Test.YtghocdiddolinaaGreatDoorJ12
import Derived.Test.YtghocdiddolinaaGreatDoorJ6
namespace Go.Proofs.YtghocdiddolinaaGreatDoor
set_option linter.unusedVariables false
set_option linter.unusedSimpArgs false
open Go.RowKit Go
namespace Cal

theorem wf_nat {z : Int} (h : 0 ≤ z ∧ z ≤ 9223372036854775807) : (Lit.int .i64 z).wf = true := by
  have e1 : IntKind.i64.min = -9223372036854775808 := by decide
  have e2 : IntKind.i64.max = 9223372036854775807 := by decide
  simp only [Lit.wf, e1, e2, Bool.and_eq_true, decide_eq_true_eq]; omega
theorem goodM (n k : Nat) (hk : k + 4 + n ≤ 9223372036854775800) : GoodR (mE n k) := by
  refine ⟨?_, ?_, ?_, ?_, ?_⟩
  · exact wf_nat (z := (k : Int)) (by omega)
  · exact wf_nat (z := ((k + 1 : Nat) : Int)) (by omega)
  · exact wf_nat (z := ((k + 2 : Nat) : Int)) (by omega)
  · exact wf_nat (z := ((k + 3 : Nat) : Int)) (by omega)
  · intro z hz
    have := mN_mem (k := k + 4) (n := n) hz
    exact wf_nat (by omega)

theorem gath_of {W : World} {base : Nat} {v : Value} {vs : List Value} {L : List Rul} (hv : vs.length = L.length) (h : GM W base v L.length vs (flatR L vs) (L.map Rul.but)) (hg : ∀ i (hi : i < L.length), GoodR L[i])
    (hasc : ∀ i j (hi : i < vs.length) (hj : j < vs.length), i < j → ∀ b c, vs[i].ownBlock = some b → vs[j].ownBlock = some c → b < c) : Gath W base v L :=
  ⟨vs, hv, h.own, fun i hi => ⟨by have := h.nums i (by omega) (by simpa using hi); simpa using this, hg i hi⟩, hasc⟩

set_option maxRecDepth 4000 in
set_option maxHeartbeats 4000000 in
theorem markCalRuleS (v : Value) (base k : Nat) (es : List Rul) (w : World) (h : Gath w base v es) (h1 : 1 ≤ k) (hk : mEnd es k ≤ 9223372036854775800) (hbase : base ≤ w.heap.size) :
    Calls Tryz.prog 34 #[v, .int .i64 k] w fun e w' => e = .returned (.int .i64 ((mEnd es k : Nat) : Int)) ∧ Gath w' base v (mEs es k) ∧ Below base w w' := by
  obtain ⟨a, c, rfl⟩ : ∃ a c, v = .slice a es.length c := by
    obtain ⟨vs, hv, ho, _⟩ := h
    rcases ho.2 with ⟨rfl, h0⟩ | ⟨g, cap, cur, rfl, _⟩
    · exact ⟨none, 0, by rw [h0]⟩
    · exact ⟨_, _, rfl⟩
  have hmx : es.length ≤ 9223372036854775807 := by
    obtain ⟨vs, hv, ho, _⟩ := h
    rcases ho.2 with ⟨_, h0⟩ | ⟨g, cap, cur, _, _, _, h4, h5, _⟩
    · omega
    · unfold maxLen at h5; omega
  have HO : Hid (Gath w base (.slice a es.length c) es) := h
  clear h
  go_enter Tryz.func34, Tryz.ntmps34
  go_wp2_with fail
  go_loopw [1, 5] (fun x i wr => ∃ q : Nat, x = .int .i64 ((mEnd (es.take q) k : Nat) : Int) ∧ i = .int .i64 q ∧ q ≤ es.length ∧ Gath wr base (.slice a es.length c) (mUp es k q) ∧ Below base w wr) (fun _ i _ => es.length - (intOf i).toNat)
  case atStart => exact ⟨0, rfl, rfl, Nat.zero_le _, by simpa [mUp, mEs] using HO.out, Below.refl _ _⟩
  case round =>
    obtain ⟨q, rfl, rfl, hq, hG, hb⟩ := hrel
    by_cases hlt : q < es.length
    · obtain ⟨vs, hv, hown, hnums, hasc⟩ := hG
      have hul := mUp_len es k q hq
      have huq := mUp_at es k q hlt (by omega)
      have hus := mUp_step es k q hlt
      have hle := mEnd_le es k (q + 1)
      have hst := mEnd_step es k q hlt
      have hlo := (mEnd_le es k q).1
      have HST : Hid _ := hst
      have HUS : Hid _ := hus
      clear hst hus
      rw [hul] at hown
      obtain ⟨g, rfl⟩ : ∃ g, a = some ⟨g, 0, none⟩ := by
        rcases hown.2 with ⟨h0, h1⟩ | ⟨g, cap, cur, h1, _⟩
        · omega
        · simp only [Value.slice.injEq] at h1; exact ⟨g, h1.1⟩
      have hcap : es.length ≤ c := by
        rcases hown.2 with ⟨h0, h1⟩ | ⟨g, cap, cur, h1, _, _, h2, _⟩
        · omega
        · simp only [Value.slice.injEq] at h1; omega
      have hgb : base ≤ g := (hown.lt g rfl).1
      have hG0 : GM wr base (.slice (some ⟨g, 0, none⟩) es.length c) es.length vs (flatR (mUp es k q) vs) ((mUp es k q).map Rul.but) := ⟨hown, fun i h1 h2 => by have := (hnums i (by omega)).1; simpa using this⟩
      have hfl : ∀ j, j < 5 → (flatR (mUp es k q) vs)[q * 5 + j]? = (cellsR es[q] (vs[q]'(by omega)))[j]? := fun j hj => by rw [flatR_at _ _ q j hv (by omega) hj, huq]
      obtain ⟨av, lv, cv, hvq⟩ : ∃ av lv cv, vs[q]'(by omega) = .slice av lv cv := by
        have := (hnums q (by omega)).1
        rcases this.2 with ⟨h0, _⟩ | ⟨g, cap, cur, h0, _⟩
        · exact ⟨_, _, _, h0⟩
        · exact ⟨_, _, _, h0⟩
      rw [hvq] at hfl
      obtain ⟨c0, f0⟩ := own_cellAt hown (hfl 0 (by omega))
      obtain ⟨c1, f1⟩ := own_cellAt hown (hfl 1 (by omega))
      obtain ⟨c2, f2⟩ := own_cellAt hown (hfl 2 (by omega))
      obtain ⟨c3, f3⟩ := own_cellAt hown (hfl 3 (by omega))
      obtain ⟨c4, f4⟩ := own_cellAt hown (hfl 4 (by omega))
      rw [Nat.add_zero] at c0 f0
      have HNUM : Hid (∀ i (h : i < (mUp es k q).length), GoodR (mUp es k q)[i]) := fun i h => (hnums i h).2
      have HASC : Hid (∀ i j (hi : i < vs.length) (hj : j < vs.length), i < j → ∀ b c, vs[i].ownBlock = some b → vs[j].ownBlock = some c → b < c) := hasc
      have HFL : Hid _ := hfl
      have HG0 : Hid _ := hG0
      have HUQ : Hid _ := huq
      have hup : mEnd (es.take q) k + 4 + es[q].but.length ≤ 9223372036854775800 := by have := HST.out; have := hle.2; omega
      clear hle
      generalize hK : mEnd (es.take q) k = K at hup hlo HST HUS
      have hK0 : (K : Int) ≤ 9223372036854775796 := by omega
      clear hown hnums hasc hfl hG0 huq
      have HG5 : Hid (GM ((((wr.setCell ⟨g, q * 5, none⟩ (.int .i64 (K : Int))).setCell ⟨g, q * 5 + 1, none⟩ (.int .i64 ((K : Int) + 1))).setCell ⟨g, q * 5 + 2, none⟩ (.int .i64 ((K : Int) + 2))).setCell ⟨g, q * 5 + 3, none⟩ (.int .i64 ((K : Int) + 3))) base (.slice (some ⟨g, 0, none⟩) es.length c) es.length vs ((((flatR (mUp es k q) vs).set (q * 5) (.int .i64 (K : Int))).set (q * 5 + 1) (.int .i64 ((K : Int) + 1))).set (q * 5 + 2) (.int .i64 ((K : Int) + 2)) |>.set (q * 5 + 3) (.int .i64 ((K : Int) + 3))) ((mUp es k q).map Rul.but)) := GM.set (GM.set (GM.set (GM.set HG0.out (i := q * 5) (by omega) _) (i := q * 5 + 1) (by omega) _) (i := q * 5 + 2) (by omega) _) (i := q * 5 + 3) (by omega) _
      have HB5 : Hid (Below base w ((((wr.setCell ⟨g, q * 5, none⟩ (.int .i64 (K : Int))).setCell ⟨g, q * 5 + 1, none⟩ (.int .i64 ((K : Int) + 1))).setCell ⟨g, q * 5 + 2, none⟩ (.int .i64 ((K : Int) + 2))).setCell ⟨g, q * 5 + 3, none⟩ (.int .i64 ((K : Int) + 3)))) := (((hb.setCell (p := ⟨g, q * 5, none⟩) hgb _).setCell (p := ⟨g, q * 5 + 1, none⟩) hgb _).setCell (p := ⟨g, q * 5 + 2, none⟩) hgb _).setCell (p := ⟨g, q * 5 + 3, none⟩) hgb _
      have HNQ : Hid (((((wr.setCell ⟨g, q * 5, none⟩ (.int .i64 (K : Int))).setCell ⟨g, q * 5 + 1, none⟩ (.int .i64 ((K : Int) + 1))).setCell ⟨g, q * 5 + 2, none⟩ (.int .i64 ((K : Int) + 2))).setCell ⟨g, q * 5 + 3, none⟩ (.int .i64 ((K : Int) + 3))).ownsRow base 3 1 (.slice av lv cv) es[q].but.length (es[q].but.map (Value.int .i64))) := by
        have := HG5.out.nums q (by omega) (by simp; omega)
        simp only [List.getElem_map, HUQ.out, hvq] at this
        exact this
      have HMI : Hid (∀ (z : Int) W, z = ((K + 4 : Nat) : Int) → W.ownsRow base 3 1 (.slice av lv cv) es[q].but.length (es[q].but.map (Value.int .i64)) → Calls Tryz.prog 35 #[.slice av lv cv, .int .i64 z] W fun e w' => e = .returned (.int .i64 ((K + 4 + es[q].but.length : Nat) : Int)) ∧ w'.ownsRow base 3 1 (.slice av lv cv) es[q].but.length ((mN (K + 4) es[q].but.length).map (Value.int .i64)) ∧ W.grownBy w' (Value.slice av lv cv).ownBlock) := fun z W e h => by subst e; exact markIntS _ base (K + 4) es[q].but W h (by omega)
      go_wp2_with fail
      refine (HMI.out _ _ (by omega) HNQ.out).mono ?_
      rintro e w4 ⟨rfl, hown4, hg4⟩
      have HB6 : Hid (Below base w w4) := HB5.out.trans ((Below.refl _ _).grown hg4 (Nat.le_trans hbase HB5.out.size) (fun b hb' => (HNQ.out.lt b hb').1))
      have hG6 := GM.mark HG5.out (q := q) (by omega) (by simp; omega) (L' := mN (K + 4) es[q].but.length) (by rw [hvq, mN_len]; exact hown4) (by rw [hvq]; exact hg4) (fun i hi hne b h1 h2 => by
        rcases Nat.lt_or_gt_of_ne hne with hlt' | hgt
        · have := HASC.out i q hi (by omega) hlt' b b h1 h2; omega
        · have := HASC.out q i (by omega) hi hgt b b h2 h1; omega)
      have HG7 : Hid (Gath w4 base (.slice (some ⟨g, 0, none⟩) es.length c) (mUp es k (q + 1))) := by
        have e1 : mUp es k (q + 1) = (mUp es k q).set q (mE es[q].but.length K) := HUS.out
        show Gath _ _ _ _
        rw [e1]
        refine gath_of (vs := vs) (by simpa using hv) ?_ ?_ HASC.out
        · have hf := flat_set (mUp es k q) vs q hv (by omega) (K : Int) ((K : Int) + 1) ((K : Int) + 2) ((K : Int) + 3) (mN (K + 4) es[q].but.length)
          rw [hf] at hG6
          have hme : mE es[q].but.length K = ⟨(K : Int), (K : Int) + 1, (K : Int) + 2, (K : Int) + 3, mN (K + 4) es[q].but.length⟩ := by simp [mE]
          rw [hme, List.length_set, List.map_set, hul]
          exact hG6
        · intro i hi
          rw [List.getElem_set]
          split
          · exact goodM _ _ (by omega)
          · exact HNUM.out i (by simpa using hi)
      clear hown4 hg4 hG6
      go_wp2_with fail
      go_roundw
      case rel => exact ⟨q + 1, by rw [HST.out]; simp, by go_num, by omega, HG7.out, HB6.out⟩
      case measure => simp [intOf]; omega
    · have hqe : q = es.length := by omega
      subst hqe
      rw [List.take_length] at *
      go_wp2_with fail
      go_ret
      refine ⟨rfl, ?_, hb⟩
      have := hG
      unfold mUp at this
      rw [List.take_length, List.drop_length, List.append_nil] at this
      exact this
end Cal
end Go.Proofs.YtghocdiddolinaaGreatDoor

namespace Go.Proofs.YtghocdiddolinaaGreatDoor
set_option linter.unusedVariables false
set_option linter.unusedSimpArgs false
open Go.RowKit Go
namespace Cal

theorem gathV_of {W : World} {base : Nat} {v : Value} {vs : List Value} {L : List Rul} (hv : vs.length = L.length) (h : GM W base v L.length vs (flatR L vs) (L.map Rul.but)) (hg : ∀ i (hi : i < L.length), GoodR L[i])
    (hasc : ∀ i j (hi : i < vs.length) (hj : j < vs.length), i < j → ∀ b c, vs[i].ownBlock = some b → vs[j].ownBlock = some c → b < c) : GathV W base v vs L :=
  ⟨hv, h.own, fun i hi => ⟨by have := h.nums i (by omega) (by simpa using hi); simpa using this, hg i hi⟩, hasc⟩
/-- All blocks but those of v and vs stand. -/
def Else (v : Value) (vs : List Value) (w w' : World) : Prop := w.heap.size ≤ w'.heap.size ∧ ∀ k, k < w.heap.size → v.ownBlock ≠ some k → (∀ i (hi : i < vs.length), vs[i].ownBlock ≠ some k) → w'.heap[k]? = w.heap[k]?
theorem Else.refl (v : Value) (vs : List Value) (w : World) : Else v vs w w := ⟨Nat.le_refl _, fun _ _ _ _ => rfl⟩

set_option maxRecDepth 4000 in
set_option maxHeartbeats 4000000 in
theorem markCalRuleV (v : Value) (vs : List Value) (base k : Nat) (es : List Rul) (w : World) (h : GathV w base v vs es) (h1 : 1 ≤ k) (hk : mEnd es k ≤ 9223372036854775800) (hbase : base ≤ w.heap.size) :
    Calls Tryz.prog 34 #[v, .int .i64 k] w fun e w' => e = .returned (.int .i64 ((mEnd es k : Nat) : Int)) ∧ GathV w' base v vs (mEs es k) ∧ Below base w w' ∧ Else v vs w w' := by
  obtain ⟨a, c, rfl⟩ : ∃ a c, v = .slice a es.length c := by
    obtain ⟨hv, ho, _⟩ := h
    rcases ho.2 with ⟨rfl, h0⟩ | ⟨g, cap, cur, rfl, _⟩
    · exact ⟨none, 0, by rw [h0]⟩
    · exact ⟨_, _, rfl⟩
  have hmx : es.length ≤ 9223372036854775807 := by
    obtain ⟨hv, ho, _⟩ := h
    rcases ho.2 with ⟨_, h0⟩ | ⟨g, cap, cur, _, _, _, h4, h5, _⟩
    · omega
    · unfold maxLen at h5; omega
  have HO : Hid (GathV w base (.slice a es.length c) vs es) := h
  clear h
  go_enter Tryz.func34, Tryz.ntmps34
  go_wp2_with fail
  go_loopw [1, 5] (fun x i wr => ∃ q : Nat, x = .int .i64 ((mEnd (es.take q) k : Nat) : Int) ∧ i = .int .i64 q ∧ q ≤ es.length ∧ GathV wr base (.slice a es.length c) vs (mUp es k q) ∧ Below base w wr ∧ Else (.slice a es.length c) vs w wr) (fun _ i _ => es.length - (intOf i).toNat)
  case atStart => exact ⟨0, rfl, rfl, Nat.zero_le _, by simpa [mUp, mEs] using HO.out, Below.refl _ _, Else.refl _ _ _⟩
  case round =>
    obtain ⟨q, rfl, rfl, hq, hG, hb, hel⟩ := hrel
    have HEL : Hid _ := hel
    clear hel
    by_cases hlt : q < es.length
    · obtain ⟨hv, hown, hnums, hasc⟩ := hG
      have hul := mUp_len es k q hq
      have huq := mUp_at es k q hlt (by omega)
      have hus := mUp_step es k q hlt
      have hle := mEnd_le es k (q + 1)
      have hst := mEnd_step es k q hlt
      have hlo := (mEnd_le es k q).1
      have HST : Hid _ := hst
      have HUS : Hid _ := hus
      clear hst hus
      rw [hul] at hown
      obtain ⟨g, rfl⟩ : ∃ g, a = some ⟨g, 0, none⟩ := by
        rcases hown.2 with ⟨h0, h1⟩ | ⟨g, cap, cur, h1, _⟩
        · omega
        · simp only [Value.slice.injEq] at h1; exact ⟨g, h1.1⟩
      have hcap : es.length ≤ c := by
        rcases hown.2 with ⟨h0, h1⟩ | ⟨g, cap, cur, h1, _, _, h2, _⟩
        · omega
        · simp only [Value.slice.injEq] at h1; omega
      have hgb : base ≤ g := (hown.lt g rfl).1
      have hG0 : GM wr base (.slice (some ⟨g, 0, none⟩) es.length c) es.length vs (flatR (mUp es k q) vs) ((mUp es k q).map Rul.but) := ⟨hown, fun i h1 h2 => by have := (hnums i (by omega)).1; simpa using this⟩
      have hfl : ∀ j, j < 5 → (flatR (mUp es k q) vs)[q * 5 + j]? = (cellsR es[q] (vs[q]'(by omega)))[j]? := fun j hj => by rw [flatR_at _ _ q j hv (by omega) hj, huq]
      obtain ⟨av, lv, cv, hvq⟩ : ∃ av lv cv, vs[q]'(by omega) = .slice av lv cv := by
        have := (hnums q (by omega)).1
        rcases this.2 with ⟨h0, _⟩ | ⟨g, cap, cur, h0, _⟩
        · exact ⟨_, _, _, h0⟩
        · exact ⟨_, _, _, h0⟩
      rw [hvq] at hfl
      obtain ⟨c0, f0⟩ := own_cellAt hown (hfl 0 (by omega))
      obtain ⟨c1, f1⟩ := own_cellAt hown (hfl 1 (by omega))
      obtain ⟨c2, f2⟩ := own_cellAt hown (hfl 2 (by omega))
      obtain ⟨c3, f3⟩ := own_cellAt hown (hfl 3 (by omega))
      obtain ⟨c4, f4⟩ := own_cellAt hown (hfl 4 (by omega))
      rw [Nat.add_zero] at c0 f0
      have HNUM : Hid (∀ i (h : i < (mUp es k q).length), GoodR (mUp es k q)[i]) := fun i h => (hnums i h).2
      have HASC : Hid (∀ i j (hi : i < vs.length) (hj : j < vs.length), i < j → ∀ b c, vs[i].ownBlock = some b → vs[j].ownBlock = some c → b < c) := hasc
      have HFL : Hid _ := hfl
      have HG0 : Hid _ := hG0
      have HUQ : Hid _ := huq
      have hup : mEnd (es.take q) k + 4 + es[q].but.length ≤ 9223372036854775800 := by have := HST.out; have := hle.2; omega
      clear hle
      generalize hK : mEnd (es.take q) k = K at hup hlo HST HUS
      have hK0 : (K : Int) ≤ 9223372036854775796 := by omega
      clear hown hnums hasc hfl hG0 huq
      have HG5 : Hid (GM ((((wr.setCell ⟨g, q * 5, none⟩ (.int .i64 (K : Int))).setCell ⟨g, q * 5 + 1, none⟩ (.int .i64 ((K : Int) + 1))).setCell ⟨g, q * 5 + 2, none⟩ (.int .i64 ((K : Int) + 2))).setCell ⟨g, q * 5 + 3, none⟩ (.int .i64 ((K : Int) + 3))) base (.slice (some ⟨g, 0, none⟩) es.length c) es.length vs ((((flatR (mUp es k q) vs).set (q * 5) (.int .i64 (K : Int))).set (q * 5 + 1) (.int .i64 ((K : Int) + 1))).set (q * 5 + 2) (.int .i64 ((K : Int) + 2)) |>.set (q * 5 + 3) (.int .i64 ((K : Int) + 3))) ((mUp es k q).map Rul.but)) := GM.set (GM.set (GM.set (GM.set HG0.out (i := q * 5) (by omega) _) (i := q * 5 + 1) (by omega) _) (i := q * 5 + 2) (by omega) _) (i := q * 5 + 3) (by omega) _
      have HB5 : Hid (Below base w ((((wr.setCell ⟨g, q * 5, none⟩ (.int .i64 (K : Int))).setCell ⟨g, q * 5 + 1, none⟩ (.int .i64 ((K : Int) + 1))).setCell ⟨g, q * 5 + 2, none⟩ (.int .i64 ((K : Int) + 2))).setCell ⟨g, q * 5 + 3, none⟩ (.int .i64 ((K : Int) + 3)))) := (((hb.setCell (p := ⟨g, q * 5, none⟩) hgb _).setCell (p := ⟨g, q * 5 + 1, none⟩) hgb _).setCell (p := ⟨g, q * 5 + 2, none⟩) hgb _).setCell (p := ⟨g, q * 5 + 3, none⟩) hgb _
      have HNQ : Hid (((((wr.setCell ⟨g, q * 5, none⟩ (.int .i64 (K : Int))).setCell ⟨g, q * 5 + 1, none⟩ (.int .i64 ((K : Int) + 1))).setCell ⟨g, q * 5 + 2, none⟩ (.int .i64 ((K : Int) + 2))).setCell ⟨g, q * 5 + 3, none⟩ (.int .i64 ((K : Int) + 3))).ownsRow base 3 1 (.slice av lv cv) es[q].but.length (es[q].but.map (Value.int .i64))) := by
        have := HG5.out.nums q (by omega) (by simp; omega)
        simp only [List.getElem_map, HUQ.out, hvq] at this
        exact this
      have HMI : Hid (∀ (z : Int) W, z = ((K + 4 : Nat) : Int) → W.ownsRow base 3 1 (.slice av lv cv) es[q].but.length (es[q].but.map (Value.int .i64)) → Calls Tryz.prog 35 #[.slice av lv cv, .int .i64 z] W fun e w' => e = .returned (.int .i64 ((K + 4 + es[q].but.length : Nat) : Int)) ∧ w'.ownsRow base 3 1 (.slice av lv cv) es[q].but.length ((mN (K + 4) es[q].but.length).map (Value.int .i64)) ∧ W.grownBy w' (Value.slice av lv cv).ownBlock) := fun z W e h => by subst e; exact markIntS _ base (K + 4) es[q].but W h (by omega)
      go_wp2_with fail
      refine (HMI.out _ _ (by omega) HNQ.out).mono ?_
      rintro e w4 ⟨rfl, hown4, hg4⟩
      have HB6 : Hid (Below base w w4) := HB5.out.trans ((Below.refl _ _).grown hg4 (Nat.le_trans hbase HB5.out.size) (fun b hb' => (HNQ.out.lt b hb').1))
      have hG6 := GM.mark HG5.out (q := q) (by omega) (by simp; omega) (L' := mN (K + 4) es[q].but.length) (by rw [hvq, mN_len]; exact hown4) (by rw [hvq]; exact hg4) (fun i hi hne b h1 h2 => by
        rcases Nat.lt_or_gt_of_ne hne with hlt' | hgt
        · have := HASC.out i q hi (by omega) hlt' b b h1 h2; omega
        · have := HASC.out q i (by omega) hi hgt b b h2 h1; omega)
      have HEL6 : Hid (Else (.slice (some ⟨g, 0, none⟩) es.length c) vs w w4) := by
        refine ⟨Nat.le_trans HEL.out.1 (by have := hg4.size; simpa using this), fun j hj n1 n2 => ?_⟩
        have hjw : j < wr.heap.size := Nat.lt_of_lt_of_le hj HEL.out.1
        have hjg : j ≠ g := fun e => n1 (by simp [Value.ownBlock, e])
        have hjq : some j ≠ (Value.slice av lv cv).ownBlock := fun e => n2 q (by omega) (by rw [hvq]; exact e.symm)
        rw [hg4.block j (by simpa using hjw) hjq, Below.heap_setCell _ ⟨g, q * 5 + 3, none⟩ _ j hjg, Below.heap_setCell _ ⟨g, q * 5 + 2, none⟩ _ j hjg, Below.heap_setCell _ ⟨g, q * 5 + 1, none⟩ _ j hjg, Below.heap_setCell _ ⟨g, q * 5, none⟩ _ j hjg]
        exact HEL.out.2 j hj n1 n2
      have HG7 : Hid (GathV w4 base (.slice (some ⟨g, 0, none⟩) es.length c) vs (mUp es k (q + 1))) := by
        have e1 : mUp es k (q + 1) = (mUp es k q).set q (mE es[q].but.length K) := HUS.out
        show GathV _ _ _ _ _
        rw [e1]
        refine gathV_of (vs := vs) (by simpa using hv) ?_ ?_ HASC.out
        · have hf := flat_set (mUp es k q) vs q hv (by omega) (K : Int) ((K : Int) + 1) ((K : Int) + 2) ((K : Int) + 3) (mN (K + 4) es[q].but.length)
          rw [hf] at hG6
          have hme : mE es[q].but.length K = ⟨(K : Int), (K : Int) + 1, (K : Int) + 2, (K : Int) + 3, mN (K + 4) es[q].but.length⟩ := by simp [mE]
          rw [hme, List.length_set, List.map_set, hul]
          exact hG6
        · intro i hi
          rw [List.getElem_set]
          split
          · exact goodM _ _ (by omega)
          · exact HNUM.out i (by simpa using hi)
      clear hown4 hg4 hG6
      go_wp2_with fail
      go_roundw
      case rel => exact ⟨q + 1, by rw [HST.out]; simp, by go_num, by omega, HG7.out, HB6.out, HEL6.out⟩
      case measure => simp [intOf]; omega
    · have hqe : q = es.length := by omega
      subst hqe
      rw [List.take_length] at *
      go_wp2_with fail
      go_ret
      refine ⟨rfl, ?_, hb, HEL.out⟩
      have := hG
      unfold mUp at this
      rw [List.take_length, List.drop_length, List.append_nil] at this
      exact this
end Cal
end Go.Proofs.YtghocdiddolinaaGreatDoor
