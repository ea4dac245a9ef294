/- The law of CalRead: both readers say the same, and what one gave out is its reader's own. -/
import Derived.Test.YtdanfekodmncmaaGreatDoorJ16
namespace Go.Proofs.YtdanfekodmncmaaGreatDoor
set_option linter.unusedVariables false
set_option linter.unusedSimpArgs false
open Go.RowKit Go
namespace Cal

/-- A row of entries, its cells F, and the entries' rows of numbers Ls. -/
structure GM (W : World) (base : Nat) (v : Value) (n : Nat) (vs F : List Value) (Ls : List (List Int)) : Prop where
  own : W.ownsRow base 32 5 v n F
  nums : ∀ i (h : i < vs.length) (h2 : i < Ls.length), W.ownsRow base 3 1 vs[i] Ls[i].length (Ls[i].map (Value.int .i64))
theorem GM.below {W W' : World} {base : Nat} {v : Value} {n : Nat} {vs F : List Value} {Ls : List (List Int)} (h : GM W base v n vs F Ls) (hb : Below W.heap.size W W') : GM W' base v n vs F Ls :=
  ⟨own_below h.own hb, fun i h1 h2 => own_below (h.nums i h1 h2) hb⟩
theorem own_HE {w : World} {base size n g cap : Nat} {xs : List Value} {t : TypeId} (h : w.ownsRow base t size (.slice (some ⟨g, 0, none⟩) n cap) n xs) : ∃ cur, w.heap[g]? = some (.cells cur t (0, 0)) := by
  rcases h.2 with ⟨h0, _⟩ | ⟨g', cap', cur, h1, h2, h3, _⟩
  · cases h0
  · simp only [Value.slice.injEq, Option.some.injEq, Addr.mk.injEq, and_true, true_and] at h1
    obtain ⟨rfl, rfl⟩ := h1
    exact ⟨cur, h3⟩
theorem GM.set {W : World} {base g cap n : Nat} {vs F : List Value} {Ls : List (List Int)} (h : GM W base (.slice (some ⟨g, 0, none⟩) n cap) n vs F Ls) {i : Nat} (hi : i < n * 5) (u : Value) : GM (W.setCell ⟨g, i, none⟩ u) base (.slice (some ⟨g, 0, none⟩) n cap) n vs (F.set i u) Ls := by
  refine ⟨own_setAt h.own hi u, fun j h1 h2 => own_rows (h.nums j h1 h2) fun k c fz hk => ?_⟩
  rw [Below.heap_setCell W ⟨g, i, none⟩ u k ?_]; · exact hk
  rintro rfl
  obtain ⟨cur, hg⟩ := own_HE h.own
  rw [hk] at hg
  simp at hg
theorem own_int_block {w : World} {base size n : Nat} {v : Value} {xs : List Value} {t : TypeId} (h : w.ownsRow base t size v n xs) {b : Nat} (hb : v.ownBlock = some b) : ∃ cur, w.heap[b]? = some (.cells cur t (0, 0)) := by
  rcases h.2 with ⟨rfl, _⟩ | ⟨g', cap', cur, rfl, h2, h3, _⟩
  · simp [Value.ownBlock] at hb
  · simp [Value.ownBlock] at hb; subst hb; exact ⟨cur, h3⟩
theorem GM.mark {W W' : World} {base : Nat} {v : Value} {n : Nat} {vs F : List Value} {Ls : List (List Int)} (h : GM W base v n vs F Ls) {q : Nat} (hq : q < vs.length) (hq2 : q < Ls.length) {L' : List Int} (h' : W'.ownsRow base 3 1 vs[q] L'.length (L'.map (Value.int .i64))) (hg : W.grownBy W' vs[q].ownBlock)
    (hd : ∀ i (hi : i < vs.length), i ≠ q → ∀ b, vs[i].ownBlock = some b → vs[q].ownBlock ≠ some b) : GM W' base v n vs F (Ls.set q L') := by
  refine ⟨own_rows h.own fun k c fz hk => (hg.block k (Array.getElem?_eq_some_iff.1 hk).1 fun e => ?_).trans hk, fun i h1 h2 => ?_⟩
  · obtain ⟨cur, hc⟩ := own_int_block (h.nums q hq hq2) e.symm
    rw [hk] at hc
    simp at hc
  · by_cases hi : i = q
    · subst hi
      simp only [List.getElem_set_self]
      exact h'
    · have hl : i < Ls.length := by simpa using h2
      rw [List.getElem_set_ne (Ne.symm hi)]
      have ho := h.nums i h1 hl
      refine ⟨ho.1, ?_⟩
      rcases ho.2 with x | ⟨g, cap, cur, e1, e2, e3, e4⟩
      · exact .inl x
      · refine .inr ⟨g, cap, cur, e1, e2, (hg.block g (Array.getElem?_eq_some_iff.1 e3).1 fun e => ?_).trans e3, e4⟩
        exact hd i h1 hi g (by rw [e1]; rfl) e.symm
theorem flat_set : ∀ (L : List Rul) (vs : List Value) (q : Nat) (_ : vs.length = L.length) (_ : q < L.length) (a b c d : Int) (ns : List Int),
    ((((flatR L vs).set (q * 5) (.int .i64 a)).set (q * 5 + 1) (.int .i64 b)).set (q * 5 + 2) (.int .i64 c)).set (q * 5 + 3) (.int .i64 d) = flatR (L.set q ⟨a, b, c, d, ns⟩) vs := by
  intro L
  induction L with
  | nil => intro vs q _ h; simp at h
  | cons e t ih =>
    intro vs q hv hq a b c d ns
    cases vs with
    | nil => simp at hv
    | cons v vs =>
      have hf : ∀ x : Rul, ∀ t, flatR (x :: t) (v :: vs) = cellsR x v ++ flatR t vs := fun _ _ => rfl
      cases q with
      | zero => simp [hf, cellsR]
      | succ q =>
        have h5 : ∀ x : Rul, (cellsR x v).length = 5 := fun _ => rfl
        rw [List.set_cons_succ, hf, hf, ← ih vs q (by simpa using hv) (by simpa using hq) a b c d ns]
        rw [List.set_append_right _ _ (by rw [h5]; omega), List.set_append_right _ _ (by rw [h5]; omega), List.set_append_right _ _ (by rw [h5]; omega), List.set_append_right _ _ (by rw [h5]; omega)]
        rw [h5, show (q + 1) * 5 - 5 = q * 5 by omega, show (q + 1) * 5 + 1 - 5 = q * 5 + 1 by omega, show (q + 1) * 5 + 2 - 5 = q * 5 + 2 by omega, show (q + 1) * 5 + 3 - 5 = q * 5 + 3 by omega]
/-- The entries, the first q of them marked. -/
def mUp (es : List Rul) (k q : Nat) : List Rul := mEs (es.take q) k ++ es.drop q
theorem mUp_len (es : List Rul) (k q : Nat) (h : q ≤ es.length) : (mUp es k q).length = es.length := by
  simp [mUp, mEs_len]; omega
theorem mEs_snoc : ∀ (es : List Rul) (k : Nat) (e : Rul), mEs (es ++ [e]) k = mEs es k ++ [mE e.but.length (mEnd es k)] := by
  intro es
  induction es with
  | nil => intro k e; rfl
  | cons x t ih => intro k e; rw [List.cons_append, mEs, ih]; rfl
theorem mUp_at (es : List Rul) (k q : Nat) (h : q < es.length) (h2 : q < (mUp es k q).length) : (mUp es k q)[q] = es[q] := by
  have hl : (mEs (es.take q) k).length = q := by rw [mEs_len, List.length_take]; omega
  have this : (mUp es k q)[q]? = some es[q] := by
    unfold mUp
    rw [List.getElem?_append_right (by omega), hl, List.getElem?_drop]
    simp [h]
  rw [List.getElem?_eq_getElem h2] at this
  exact Option.some.inj this
theorem mUp_step (es : List Rul) (k q : Nat) (h : q < es.length) : mUp es k (q + 1) = (mUp es k q).set q (mE es[q].but.length (mEnd (es.take q) k)) := by
  unfold mUp
  have hl : (mEs (es.take q) k).length = q := by rw [mEs_len, List.length_take]; omega
  rw [List.take_succ_eq_append_getElem h, mEs_snoc, List.drop_eq_getElem_cons h, List.append_assoc, List.singleton_append]
  have := set_mid (mEs (es.take q) k) (es.drop (q + 1)) es[q] (mE es[q].but.length (mEnd (es.take q) k))
  rw [hl] at this
  exact this.symm
end Cal
end Go.Proofs.YtdanfekodmncmaaGreatDoor

namespace Go.Proofs.YtdanfekodmncmaaGreatDoor
set_option linter.unusedVariables false
set_option linter.unusedSimpArgs false
open Go.RowKit Go
namespace Cal

theorem wf_nat {z : Int} (h : 0 ≤ z ∧ z ≤ 9223372036854775807) : (Lit.int .i64 z).wf = true := by
  have e1 : IntKind.i64.min = -9223372036854775808 := by decide
  have e2 : IntKind.i64.max = 9223372036854775807 := by decide
  simp only [Lit.wf, e1, e2, Bool.and_eq_true, decide_eq_true_eq]; omega
theorem goodM (n k : Nat) (hk : k + 4 + n ≤ 9223372036854775800) : GoodR (mE n k) := by
  refine ⟨?_, ?_, ?_, ?_, ?_⟩
  · exact wf_nat (z := (k : Int)) (by omega)
  · exact wf_nat (z := ((k + 1 : Nat) : Int)) (by omega)
  · exact wf_nat (z := ((k + 2 : Nat) : Int)) (by omega)
  · exact wf_nat (z := ((k + 3 : Nat) : Int)) (by omega)
  · intro z hz
    have := mN_mem (k := k + 4) (n := n) hz
    exact wf_nat (by omega)

theorem gath_of {W : World} {base : Nat} {v : Value} {vs : List Value} {L : List Rul} (hv : vs.length = L.length) (h : GM W base v L.length vs (flatR L vs) (L.map Rul.but)) (hg : ∀ i (hi : i < L.length), GoodR L[i])
    (hasc : ∀ i j (hi : i < vs.length) (hj : j < vs.length), i < j → ∀ b c, vs[i].ownBlock = some b → vs[j].ownBlock = some c → b < c) : Gath W base v L :=
  ⟨vs, hv, h.own, fun i hi => ⟨by have := h.nums i (by omega) (by simpa using hi); simpa using this, hg i hi⟩, hasc⟩

set_option maxRecDepth 4000 in
set_option maxHeartbeats 4000000 in
theorem markCalRuleS (v : Value) (base k : Nat) (es : List Rul) (w : World) (h : Gath w base v es) (h1 : 1 ≤ k) (hk : mEnd es k ≤ 9223372036854775800) (hbase : base ≤ w.heap.size) :
    Calls Tryz.prog 7 #[v, .int .i64 k] w fun e w' => e = .returned (.int .i64 ((mEnd es k : Nat) : Int)) ∧ Gath w' base v (mEs es k) ∧ Below base w w' := by
  obtain ⟨a, c, rfl⟩ : ∃ a c, v = .slice a es.length c := by
    obtain ⟨vs, hv, ho, _⟩ := h
    rcases ho.2 with ⟨rfl, h0⟩ | ⟨g, cap, cur, rfl, _⟩
    · exact ⟨none, 0, by rw [h0]⟩
    · exact ⟨_, _, rfl⟩
  have hmx : es.length ≤ 9223372036854775807 := by
    obtain ⟨vs, hv, ho, _⟩ := h
    rcases ho.2 with ⟨_, h0⟩ | ⟨g, cap, cur, _, _, _, h4, h5, _⟩
    · omega
    · unfold maxLen at h5; omega
  have HO : Hid (Gath w base (.slice a es.length c) es) := h
  clear h
  go_enter Tryz.func7, Tryz.ntmps7
  go_wp2_with fail
  go_loopw [1, 5] (fun x i wr => ∃ q : Nat, x = .int .i64 ((mEnd (es.take q) k : Nat) : Int) ∧ i = .int .i64 q ∧ q ≤ es.length ∧ Gath wr base (.slice a es.length c) (mUp es k q) ∧ Below base w wr) (fun _ i _ => es.length - (intOf i).toNat)
  case atStart => exact ⟨0, rfl, rfl, Nat.zero_le _, by simpa [mUp, mEs] using HO.out, Below.refl _ _⟩
  case round =>
    obtain ⟨q, rfl, rfl, hq, hG, hb⟩ := hrel
    by_cases hlt : q < es.length
    · obtain ⟨vs, hv, hown, hnums, hasc⟩ := hG
      have hul := mUp_len es k q hq
      have huq := mUp_at es k q hlt (by omega)
      have hus := mUp_step es k q hlt
      have hle := mEnd_le es k (q + 1)
      have hst := mEnd_step es k q hlt
      have hlo := (mEnd_le es k q).1
      have HST : Hid _ := hst
      have HUS : Hid _ := hus
      clear hst hus
      rw [hul] at hown
      obtain ⟨g, rfl⟩ : ∃ g, a = some ⟨g, 0, none⟩ := by
        rcases hown.2 with ⟨h0, h1⟩ | ⟨g, cap, cur, h1, _⟩
        · omega
        · simp only [Value.slice.injEq] at h1; exact ⟨g, h1.1⟩
      have hcap : es.length ≤ c := by
        rcases hown.2 with ⟨h0, h1⟩ | ⟨g, cap, cur, h1, _, _, h2, _⟩
        · omega
        · simp only [Value.slice.injEq] at h1; omega
      have hgb : base ≤ g := (hown.lt g rfl).1
      have hG0 : GM wr base (.slice (some ⟨g, 0, none⟩) es.length c) es.length vs (flatR (mUp es k q) vs) ((mUp es k q).map Rul.but) := ⟨hown, fun i h1 h2 => by have := (hnums i (by omega)).1; simpa using this⟩
      have hfl : ∀ j, j < 5 → (flatR (mUp es k q) vs)[q * 5 + j]? = (cellsR es[q] (vs[q]'(by omega)))[j]? := fun j hj => by rw [flatR_at _ _ q j hv (by omega) hj, huq]
      obtain ⟨av, lv, cv, hvq⟩ : ∃ av lv cv, vs[q]'(by omega) = .slice av lv cv := by
        have := (hnums q (by omega)).1
        rcases this.2 with ⟨h0, _⟩ | ⟨g, cap, cur, h0, _⟩
        · exact ⟨_, _, _, h0⟩
        · exact ⟨_, _, _, h0⟩
      rw [hvq] at hfl
      obtain ⟨c0, f0⟩ := own_cellAt hown (hfl 0 (by omega))
      obtain ⟨c1, f1⟩ := own_cellAt hown (hfl 1 (by omega))
      obtain ⟨c2, f2⟩ := own_cellAt hown (hfl 2 (by omega))
      obtain ⟨c3, f3⟩ := own_cellAt hown (hfl 3 (by omega))
      obtain ⟨c4, f4⟩ := own_cellAt hown (hfl 4 (by omega))
      rw [Nat.add_zero] at c0 f0
      have HNUM : Hid (∀ i (h : i < (mUp es k q).length), GoodR (mUp es k q)[i]) := fun i h => (hnums i h).2
      have HASC : Hid (∀ i j (hi : i < vs.length) (hj : j < vs.length), i < j → ∀ b c, vs[i].ownBlock = some b → vs[j].ownBlock = some c → b < c) := hasc
      have HFL : Hid _ := hfl
      have HG0 : Hid _ := hG0
      have HUQ : Hid _ := huq
      have hup : mEnd (es.take q) k + 4 + es[q].but.length ≤ 9223372036854775800 := by have := HST.out; have := hle.2; omega
      clear hle
      generalize hK : mEnd (es.take q) k = K at hup hlo HST HUS
      have hK0 : (K : Int) ≤ 9223372036854775796 := by omega
      clear hown hnums hasc hfl hG0 huq
      have HG5 : Hid (GM ((((wr.setCell ⟨g, q * 5, none⟩ (.int .i64 (K : Int))).setCell ⟨g, q * 5 + 1, none⟩ (.int .i64 ((K : Int) + 1))).setCell ⟨g, q * 5 + 2, none⟩ (.int .i64 ((K : Int) + 2))).setCell ⟨g, q * 5 + 3, none⟩ (.int .i64 ((K : Int) + 3))) base (.slice (some ⟨g, 0, none⟩) es.length c) es.length vs ((((flatR (mUp es k q) vs).set (q * 5) (.int .i64 (K : Int))).set (q * 5 + 1) (.int .i64 ((K : Int) + 1))).set (q * 5 + 2) (.int .i64 ((K : Int) + 2)) |>.set (q * 5 + 3) (.int .i64 ((K : Int) + 3))) ((mUp es k q).map Rul.but)) := GM.set (GM.set (GM.set (GM.set HG0.out (i := q * 5) (by omega) _) (i := q * 5 + 1) (by omega) _) (i := q * 5 + 2) (by omega) _) (i := q * 5 + 3) (by omega) _
      have HB5 : Hid (Below base w ((((wr.setCell ⟨g, q * 5, none⟩ (.int .i64 (K : Int))).setCell ⟨g, q * 5 + 1, none⟩ (.int .i64 ((K : Int) + 1))).setCell ⟨g, q * 5 + 2, none⟩ (.int .i64 ((K : Int) + 2))).setCell ⟨g, q * 5 + 3, none⟩ (.int .i64 ((K : Int) + 3)))) := (((hb.setCell (p := ⟨g, q * 5, none⟩) hgb _).setCell (p := ⟨g, q * 5 + 1, none⟩) hgb _).setCell (p := ⟨g, q * 5 + 2, none⟩) hgb _).setCell (p := ⟨g, q * 5 + 3, none⟩) hgb _
      have HNQ : Hid (((((wr.setCell ⟨g, q * 5, none⟩ (.int .i64 (K : Int))).setCell ⟨g, q * 5 + 1, none⟩ (.int .i64 ((K : Int) + 1))).setCell ⟨g, q * 5 + 2, none⟩ (.int .i64 ((K : Int) + 2))).setCell ⟨g, q * 5 + 3, none⟩ (.int .i64 ((K : Int) + 3))).ownsRow base 3 1 (.slice av lv cv) es[q].but.length (es[q].but.map (Value.int .i64))) := by
        have := HG5.out.nums q (by omega) (by simp; omega)
        simp only [List.getElem_map, HUQ.out, hvq] at this
        exact this
      have HMI : Hid (∀ (z : Int) W, z = ((K + 4 : Nat) : Int) → W.ownsRow base 3 1 (.slice av lv cv) es[q].but.length (es[q].but.map (Value.int .i64)) → Calls Tryz.prog 15 #[.slice av lv cv, .int .i64 z] W fun e w' => e = .returned (.int .i64 ((K + 4 + es[q].but.length : Nat) : Int)) ∧ w'.ownsRow base 3 1 (.slice av lv cv) es[q].but.length ((mN (K + 4) es[q].but.length).map (Value.int .i64)) ∧ W.grownBy w' (Value.slice av lv cv).ownBlock) := fun z W e h => by subst e; exact markIntS _ base (K + 4) es[q].but W h (by omega)
      go_wp2_with fail
      refine (HMI.out _ _ (by omega) HNQ.out).mono ?_
      rintro e w4 ⟨rfl, hown4, hg4⟩
      have HB6 : Hid (Below base w w4) := HB5.out.trans ((Below.refl _ _).grown hg4 (Nat.le_trans hbase HB5.out.size) (fun b hb' => (HNQ.out.lt b hb').1))
      have hG6 := GM.mark HG5.out (q := q) (by omega) (by simp; omega) (L' := mN (K + 4) es[q].but.length) (by rw [hvq, mN_len]; exact hown4) (by rw [hvq]; exact hg4) (fun i hi hne b h1 h2 => by
        rcases Nat.lt_or_gt_of_ne hne with hlt' | hgt
        · have := HASC.out i q hi (by omega) hlt' b b h1 h2; omega
        · have := HASC.out q i (by omega) hi hgt b b h2 h1; omega)
      have HG7 : Hid (Gath w4 base (.slice (some ⟨g, 0, none⟩) es.length c) (mUp es k (q + 1))) := by
        have e1 : mUp es k (q + 1) = (mUp es k q).set q (mE es[q].but.length K) := HUS.out
        show Gath _ _ _ _
        rw [e1]
        refine gath_of (vs := vs) (by simpa using hv) ?_ ?_ HASC.out
        · have hf := flat_set (mUp es k q) vs q hv (by omega) (K : Int) ((K : Int) + 1) ((K : Int) + 2) ((K : Int) + 3) (mN (K + 4) es[q].but.length)
          rw [hf] at hG6
          have hme : mE es[q].but.length K = ⟨(K : Int), (K : Int) + 1, (K : Int) + 2, (K : Int) + 3, mN (K + 4) es[q].but.length⟩ := by simp [mE]
          rw [hme, List.length_set, List.map_set, hul]
          exact hG6
        · intro i hi
          rw [List.getElem_set]
          split
          · exact goodM _ _ (by omega)
          · exact HNUM.out i (by simpa using hi)
      clear hown4 hg4 hG6
      go_wp2_with fail
      go_roundw
      case rel => exact ⟨q + 1, by rw [HST.out]; simp, by go_num, by omega, HG7.out, HB6.out⟩
      case measure => simp [intOf]; omega
    · have hqe : q = es.length := by omega
      subst hqe
      rw [List.take_length] at *
      go_wp2_with fail
      go_ret
      refine ⟨rfl, ?_, hb⟩
      have := hG
      unfold mUp at this
      rw [List.take_length, List.drop_length, List.append_nil] at this
      exact this
end Cal
end Go.Proofs.YtdanfekodmncmaaGreatDoor

namespace Go.Proofs.YtdanfekodmncmaaGreatDoor
set_option linter.unusedVariables false
set_option linter.unusedSimpArgs false
open Go.RowKit Go
namespace Cal

/-- What is asked of the model's reading. -/
def SpecCal (s : ByteArray) (w : World) (e : Ending) (w' : World) : Prop :=
  ∃ (a : Option Addr) (l c : Nat) (ok : Bool) (rs : List Rul), e = .returned (.tuple #[.slice a l c, .bool ok]) ∧ Below w.heap.size w w' ∧ IsRuls w' a l c rs ∧ (ok = true → IsCal s rs) ∧ (ok = false → rs = [] ∧ ∀ L, ¬ IsCal s L)
/-- What is asked of the program's reading: what it gives out is its own. -/
def ReadsCal (s : ByteArray) (w : World) (e : Ending) (w' : World) : Prop :=
  ∃ (v : Value) (ok : Bool), e = .returned (.tuple #[v, .bool ok]) ∧ Below w.heap.size w w' ∧ (ok = true → ∃ rs, IsCal s rs ∧ Gath w' w.heap.size v rs) ∧ (ok = false → Gath w' w.heap.size v [] ∧ ∀ L, ¬ IsCal s L)
/-- What a text reads as. -/
def Fact (s : ByteArray) (ok : Bool) (es : List Rul) : Prop := (ok = true → IsCal s es) ∧ (ok = false → es = [] ∧ ∀ L, ¬ IsCal s L)
theorem reads_fact {s : ByteArray} {w w' : World} {e : Ending} {ok : Bool} {es : List Rul} (h : ReadsCal s w e w') (hf : Fact s ok es) : ∃ v, e = .returned (.tuple #[v, .bool ok]) ∧ Gath w' w.heap.size v es ∧ Below w.heap.size w w' := by
  obtain ⟨v, ok2, rfl, hb, h1, h2⟩ := h
  cases ok2 with
  | true =>
    obtain ⟨rs, ht, hg⟩ := h1 rfl
    cases ok with
    | true => rw [(hf.1 rfl).one ht]; exact ⟨v, rfl, hg, hb⟩
    | false => exact absurd ht ((hf.2 rfl).2 _)
  | false =>
    obtain ⟨hg, hno⟩ := h2 rfl
    cases ok with
    | true => exact absurd (hf.1 rfl) (hno _)
    | false => rw [(hf.2 rfl).1]; exact ⟨_, rfl, hg, hb⟩
theorem mEnd_bd {B : Nat} : ∀ (es : List Rul) (k : Nat), (∀ e ∈ es, e.but.length ≤ B) → mEnd es k ≤ k + (4 + B) * es.length := by
  intro es
  induction es with
  | nil => intro k _; simp [mEnd]
  | cons e t ih =>
    intro k h
    have h1 := ih (k + 4 + e.but.length) (fun x hx => h x (List.mem_cons_of_mem _ hx))
    have h2 := h e (by simp)
    rw [mEnd, List.length_cons, Nat.mul_add]
    omega
theorem fact_end {s : ByteArray} {ok : Bool} {es : List Rul} (hf : Fact s ok es) : mEnd es 1 ≤ 1000000 := by
  cases ok with
  | true =>
    have h := (hf.1 rfl).1
    have h4 : es.length ≤ 4 := by
      have := calOk_all (rs := es) (fun i hi => ruleOk_yes (calOk_rules h i hi))
      rw [h] at this
      have := of_decide_eq_true this.symm
      omega
    have := mEnd_bd (B := 8) es 1 (fun e he => (cal_all h e he).2.2.2.2.1)
    omega
  | false => rw [(hf.2 rfl).1]; decide

set_option maxRecDepth 4000 in
set_option maxHeartbeats 4000000 in
theorem lawCalRead (s : ByteArray) (w : World) (hs : ∀ w, s.size ≤ 16777216 → Calls Tryz.prog 4 #[.string s] w fun e w' => SpecCal s w e w')
    (hi : ∀ w', Below w.heap.size w w' → Calls Tryz.prog 5 #[.string s] w' fun e w'' => ReadsCal s w' e w'') :
    Calls Tryz.prog 3 #[.string s] w fun e w' => e = .returned (.bool true) ∧ Below w.heap.size w w' := by
  have HS : Hid (∀ w, s.size ≤ 1048576 → Calls Tryz.prog 4 #[.string s] w fun e w' => SpecCal s w e w') := fun w h => hs w (by omega)
  have HI : Hid (∀ w', Below w.heap.size w w' → Calls Tryz.prog 5 #[.string s] w' fun e w'' => ReadsCal s w' e w'') := hi
  have HQ : Hid (∀ a b len cap cap2 es w, IsRuls w a len cap es → IsRuls w b len cap2 es → Calls Tryz.prog 6 #[.slice a len cap, .slice b len cap2] w fun e w' => e = .returned (.bool true) ∧ Below w.heap.size w w') := fun a b len cap cap2 es w h1 h2 => eqCalRuleS a b len cap cap2 es w h1 h2
  have HM : Hid (∀ v base es w, Gath w base v es → mEnd es 1 ≤ 1000000 → base ≤ w.heap.size → Calls Tryz.prog 7 #[v, .int .i64 1] w fun e w' => e = .returned (.int .i64 ((mEnd es 1 : Nat) : Int)) ∧ Gath w' base v (mEs es 1) ∧ Below base w w') := fun v base es w h1 h2 h3 => markCalRuleS v base 1 es w h1 (Nat.le_refl _) (by omega) h3
  have HH : Hid (∀ a len cap es w, IsRuls w a len cap (mEs es 1) → mEnd es 1 ≤ 1000000 → Calls Tryz.prog 8 #[.slice a len cap, .int .i64 1] w fun e w' => e = .returned (.int .i64 ((mEnd es 1 : Nat) : Int)) ∧ Below w.heap.size w w') := fun a len cap es w h1 h2 => heldCalRuleS a len cap 1 es w h1 (Nat.le_refl _) (by omega)
  clear hs hi
  by_cases hbig : 1048576 < s.size
  · have hd : decide ((1048576 : Int) < (s.size : Int)) = true := decide_eq_true (by omega)
    go_enter Tryz.func3, Tryz.ntmps3
    go_wp2_with fail
    go_ret
    exact ⟨rfl, Below.refl _ _⟩
  · have hd : decide ((1048576 : Int) < (s.size : Int)) = false := decide_eq_false (by omega)
    go_enter Tryz.func3, Tryz.ntmps3
    go_wp2_with fail
    refine (HS.out _ (by omega)).mono ?_
    rintro e w1 ⟨a, l, c, ok, es, rfl, hb1, hents, hf1, hf2⟩
    have HF : Hid (Fact s ok es) := ⟨hf1, hf2⟩
    clear hf1 hf2
    have hend := fact_end HF.out
    have hlen : es.length = l := (IsRecs.len hents).1
    subst hlen
    go_wp2_with fail
    refine (HI.out _ hb1).mono ?_
    rintro e w2 hrd
    obtain ⟨v, rfl, hG, hb2⟩ := reads_fact hrd HF.out
    clear hrd
    obtain ⟨av, cv, rfl, hev⟩ := gath_ruls hG
    have HG : Hid (Gath w2 w1.heap.size (.slice av es.length cv) es) := hG
    clear hG
    go_wp2_with fail
    refine (HQ.out _ _ _ _ _ es _ hev (hents.below hb2)).mono ?_
    rintro e w3 ⟨rfl, hb3⟩
    have hbb3 := bcall hb2 hb2.size hb3
    have HG3 : Hid (Gath w3 w1.heap.size (.slice av es.length cv) es) := Gath.same HG.out (SameT.below hb3)
    clear hev
    cases ok
    all_goals
      go_wp2_with fail
      refine (HM.out _ _ _ _ HG3.out hend hbb3.size).mono ?_
      rintro e w4 ⟨rfl, hG4, hb4⟩
      have hbb4 : Below w1.heap.size w1 w4 := hbb3.trans hb4
      obtain ⟨a4, c4, hv4, hev4⟩ := gath_ruls hG4
      rw [mEs_len] at hv4 hev4
      simp only [Value.slice.injEq, true_and] at hv4
      obtain ⟨rfl, rfl⟩ := hv4
      clear hG4 hb4
      generalize hm : mEnd es 1 = m
      have hmm : (m : Int) ≤ 1000000 := by omega
      have HMM : Hid (mEnd es 1 = m) := hm
      clear hm
      go_wp2_with fail
      refine (HH.out _ _ _ es _ hev4 (by omega)).mono ?_
      rintro e w5 ⟨rfl, hb5⟩
      rw [HMM.out]
      have hev5 := hev4.below hb5
      have hbb5 := bcall hbb4 hbb4.size hb5
      clear hev4
      have hbw5 : Below w.heap.size w w5 := hb1.trans (hbb5.mono hb1.size)
      go_wp2_with fail
      refine (HI.out _ hbw5).mono ?_
      rintro e w6 hrd
      obtain ⟨v6, rfl, hG6, hb6⟩ := reads_fact hrd HF.out
      clear hrd
      obtain ⟨a6, c6, rfl, he6⟩ := gath_ruls hG6
      have hbb6 := bcall hbb5 hbb5.size hb6
      have hev6 := hev5.below hb6
      clear hG6 hev5
      go_wp2_with fail
      refine (HQ.out _ _ _ _ _ es _ he6 (hents.below hbb6)).mono ?_
      rintro e w7 ⟨rfl, hb7⟩
      have hbb7 := bcall hbb6 hbb6.size hb7
      have hev7 := hev6.below hb7
      clear he6 hev6
      go_wp2_with fail
      refine (HH.out _ _ _ es _ hev7 (by omega)).mono ?_
      rintro e w8 ⟨rfl, hb8⟩
      rw [HMM.out]
      have hbb8 := bcall hbb7 hbb7.size hb8
      go_wp2_with fail
      go_ret
      exact ⟨rfl, hb1.trans (hbb8.mono hb1.size)⟩
end Cal
end Go.Proofs.YtdanfekodmncmaaGreatDoor
