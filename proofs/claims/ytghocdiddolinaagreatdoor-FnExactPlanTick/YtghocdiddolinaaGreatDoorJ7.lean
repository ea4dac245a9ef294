/- The law's copies of plans: rows of their own. -/
import Derived.Test.YtghocdiddolinaaGreatDoorJ3
import Derived.Test.YtghocdiddolinaaGreatDoorJ6
namespace Go.Proofs.YtghocdiddolinaaGreatDoor
set_option linter.unusedVariables false
set_option linter.unusedSimpArgs false
open Go.RowKit Go

set_option maxHeartbeats 400000 in
theorem szPlanToldS (a : Option Addr) (len cap : Nat) (left : Int) (hl : -1 ≤ left ∧ left ≤ 1048576) (hm : len ≤ 9223372036854775807) (w : World) :
    Calls Tryz.prog 19 #[.slice a len cap, .int .i64 left] w fun e w' => e = .returned (.int .i64 (lessBy left len)) ∧ Below w.heap.size w w' := by
  go_enter Tryz.func19, Tryz.ntmps19
  by_cases h : left - len < 0
  · rw [lessBy_pos h]
    go_wp2
    all_goals go_ret
    exact ⟨rfl, Below.refl _ _⟩
  · rw [lessBy_neg h]
    go_wp2
    all_goals go_ret
    exact ⟨rfl, Below.refl _ _⟩

set_option maxHeartbeats 800000 in
theorem szPlan (ra : Option Addr) (rl rc : Nat) (ga : Option Addr) (gl gc : Nat) (wa : Option Addr) (wl wc : Nat) (ta : Option Addr) (tl tc : Nat) (p : Pla) (w : World) (hp : IsPla w ra rl rc ga gl gc wa wl wc ta tl tc p) :
    Calls Tryz.prog 5 #[.agg #[.slice ra rl rc, .int .i64 p.pol, .int .i64 p.win, .int .i64 p.last, .slice ga gl gc, .slice wa wl wc, .slice ta tl tc], .int .i64 1048576] w fun e w' => (∃ r : Int, e = .returned (.int .i64 r) ∧ -1 ≤ r ∧ r ≤ 1048576 ∧ (0 ≤ r → plaSmall p)) ∧ Below w.heap.size w w' := by
  have hr := (IsRecs.len hp.1).1
  obtain ⟨hg, hg2⟩ := hp.2.1.len
  obtain ⟨hw, hw2⟩ := hp.2.2.1.len
  obtain ⟨ht, ht2⟩ := IsRecs.len hp.2.2.2
  unfold maxLen at hg2 hw2 ht2
  have HP : Hid _ := hp
  have HR : Hid (∀ w, IsRuls w ra rl rc p.rs → Calls Tryz.prog 17 #[.slice ra rl rc, .int .i64 1048576] w fun e w' => (∃ r : Int, e = .returned (.int .i64 r) ∧ -1 ≤ r ∧ r ≤ 1048576 ∧ (0 ≤ r → rl ≤ 1048576 ∧ ∀ i (h : i < p.rs.length), rulSmall p.rs[i])) ∧ Below w.heap.size w w') := fun w h => szCalRuleS ra rl rc p.rs w h
  have HS : Hid (∀ r1 r2 r3 r4 : Int, (0 ≤ r1 → rl ≤ 1048576 ∧ ∀ i (h : i < p.rs.length), rulSmall p.rs[i]) → 0 ≤ r1 → r1 ≤ 1048576 → r2 = lessBy r1 gl → 0 ≤ r2 → r3 = lessBy r2 wl → 0 ≤ r3 → r4 = lessBy r3 tl → 0 ≤ r4 → plaSmall p) := fun r1 r2 r3 r4 h1 h2 h3 h4 h5 h6 h7 h8 h9 => by
    obtain ⟨k1, k2⟩ := h1 h2
    refine ⟨by omega, k2, ?_, ?_, ?_⟩ <;> (unfold lessBy at h4 h6 h8; split at h4 <;> split at h6 <;> split at h8 <;> omega)
  clear hp
  go_enter Tryz.func5, Tryz.ntmps5
  go_wp2_with fail
  refine (HR.out _ (IsRuls.alloc HP.out.1 _)).mono ?_
  rintro e w1 ⟨⟨r1, rfl, hr1, hr2, hr3⟩, hb1⟩
  have hB1 := below_box hb1
  have c4 := boxAt hB1 (i := 4) (v := .slice ga gl gc) rfl
  have c5 := boxAt hB1 (i := 5) (v := .slice wa wl wc) rfl
  have c6 := boxAt hB1 (i := 6) (v := .slice ta tl tc) rfl
  have HB1 : Hid _ := unbox hB1
  have HK1 : Hid _ := hr3
  clear hr3 hb1 hB1
  by_cases h1 : r1 < 0
  · go_wp2_with fail
    go_ret
    exact ⟨⟨_, rfl, by omega, by omega, by omega⟩, HB1.out⟩
  have s2 := fun w => szIntS ga gl gc r1 ⟨by omega, hr2⟩ (by omega) w
  have hl2 := lessBy_bd (left := r1) (k := gl) (by omega) ⟨by omega, hr2⟩
  generalize e2 : lessBy r1 gl = r2 at s2 hl2
  have s2 : Hid _ := s2
  have E2 : Hid _ := e2.symm
  clear e2
  have s3 := fun w => szIntS wa wl wc r2 hl2 (by omega) w
  have hl3 := lessBy_bd (left := r2) (k := wl) (by omega) hl2
  generalize e3 : lessBy r2 wl = r3 at s3 hl3
  have s3 : Hid _ := s3
  have E3 : Hid _ := e3.symm
  clear e3
  have s4 := fun w => szPlanToldS ta tl tc r3 hl3 (by omega) w
  have hl4 := lessBy_bd (left := r3) (k := tl) (by omega) hl3
  generalize e4 : lessBy r3 tl = r4 at s4 hl4
  have s4 : Hid _ := s4
  have E4 : Hid _ := e4.symm
  clear e4
  go_wp2_with fail
  refine (s2.out _).mono ?_
  rintro e w2 ⟨rfl, hb2⟩
  have d5 := (hb2.cell (World.block_lt_of_cell? _ _ c5)).trans c5
  have d6 := (hb2.cell (World.block_lt_of_cell? _ _ c6)).trans c6
  have HB2 : Hid _ := bcall HB1.out HB1.out.size hb2
  clear c4 c5 c6 hb2
  by_cases h2 : r2 < 0
  · go_wp2_with fail
    go_ret
    exact ⟨⟨_, rfl, by omega, by omega, by omega⟩, HB2.out⟩
  go_wp2_with fail
  refine (s3.out _).mono ?_
  rintro e w3 ⟨rfl, hb3⟩
  have f6 := (hb3.cell (World.block_lt_of_cell? _ _ d6)).trans d6
  have HB3 : Hid _ := bcall HB2.out HB2.out.size hb3
  clear d5 d6 hb3
  by_cases h3 : r3 < 0
  · go_wp2_with fail
    go_ret
    exact ⟨⟨_, rfl, by omega, by omega, by omega⟩, HB3.out⟩
  go_wp2_with fail
  refine (s4.out _).mono ?_
  rintro e w4 ⟨rfl, hb4⟩
  have HB4 : Hid _ := bcall HB3.out HB3.out.size hb4
  clear f6 hb4
  by_cases h4 : r4 < 0
  · go_wp2_with fail
    go_ret
    exact ⟨⟨_, rfl, by omega, by omega, by omega⟩, HB4.out⟩
  go_wp2_with fail
  go_ret
  exact ⟨⟨_, rfl, by omega, by omega, fun _ => HS.out r1 r2 r3 r4 HK1.out (by omega) hr2 E2.out (by omega) E3.out (by omega) E4.out (by omega)⟩, HB4.out⟩

set_option maxHeartbeats 400000 in
theorem toPlanTold (tk wh : Int) (w : World) :
    Calls Tryz.prog 49 #[.agg #[.int .i64 tk, .int .i64 wh]] w fun e w' => e = .returned (.agg #[.int .i64 tk, .int .i64 wh]) ∧ Below w.heap.size w w' := by
  go_enter Tryz.func49, Tryz.ntmps49
  go_wp2_with fail
  refine bodyPost_ret (v := .agg #[.int .i64 tk, .int .i64 wh]) ?_ rfl ?_
  · simp [results, Tryz.results49, go_sem]
  · refine ⟨rfl, ?_⟩
    exact (((Below.refl _ _).alloc (Nat.le_refl _) _).alloc (by simp) _).alloc (by simp; omega) _

/-- Two cells are set. -/
theorem Holds.set2 {w : World} {N : Nat} {t : TypeId} {cur : Array Value} (h : Holds w N t cur) (k : Nat) (v0 v1 : Value) (hs : k + 1 < cur.size) :
    ∃ cur', Holds ((w.setCell ⟨N, k, none⟩ v0).setCell ⟨N, k + 1, none⟩ v1) N t cur' ∧ cur'.size = cur.size ∧ (∀ j, j < k ∨ k + 2 ≤ j → cur'[j]? = cur[j]?) ∧ cur'[k]? = some v0 ∧ cur'[k + 1]? = some v1 := by
  refine ⟨_, (h.set k v0).set (k + 1) v1, by simp, fun j hj => ?_, ?_, ?_⟩
  · rw [Array.getElem?_setIfInBounds_ne (by omega), Array.getElem?_setIfInBounds_ne (by omega)]
  · rw [Array.getElem?_setIfInBounds_ne (by omega), Array.getElem?_setIfInBounds_self_of_lt (by omega)]
  · rw [Array.getElem?_setIfInBounds_self_of_lt (by simp only [Array.size_setIfInBounds]; omega)]

/-- What was copied, up to k. -/
def TldsTo (k : Nat) (cur : Array Value) (ts : List Tld) : Prop := ∀ i (h : i < ts.length), i < k → cur[i * 2]? = some (.int .i64 ts[i].tk) ∧ cur[i * 2 + 1]? = some (.int .i64 ts[i].wh)

set_option maxHeartbeats 400000 in
theorem toPlanToldS (a : Option Addr) (len cap : Nat) (ts : List Tld) (w : World) (hr : IsTlds w a len cap ts) (hs : len ≤ 1048576) :
    Calls Tryz.prog 27 #[.slice a len cap] w fun e w' => e = .returned (.slice (some ⟨w.heap.size, 0, none⟩) len len) ∧ IsTlds w' (some ⟨w.heap.size, 0, none⟩) len len ts ∧ Below w.heap.size w w' := by
  obtain ⟨hz, hm⟩ := IsRecs.len hr
  have HRW : Hid (IsTlds w a len cap ts) := hr
  clear hr
  have hmk := run_make_recs (P := Tryz.prog) 29 61 _ 2 16 Tryz.underlying29 info_PlanTold .i64 .i64 len (by omega) (by omega)
  go_enter Tryz.func27, Tryz.ntmps27
  go_wp2
  go_loopw [4] (fun i wr => ∃ k : Nat, k ≤ len ∧ i = .int .i64 k ∧ ∃ cur, Holds wr w.heap.size 61 cur ∧ cur.size = len * 2 ∧ TldsTo k cur ts ∧ Below w.heap.size w wr) (fun i _ => len - (intOf i).toNat)
  case atStart => exact ⟨0, Nat.zero_le _, rfl, _, heap_alloc_new _ _, size_madeCells _ _, fun i _ h => by omega, (Below.refl _ _).alloc (Nat.le_refl _) _⟩
  case round =>
    obtain ⟨k, hk, rfl, cur, hg, hcs, hc, hb⟩ := hrel
    by_cases hlt : k < len
    · obtain ⟨b, off, rfl, h1, hbl, c0, c1, _⟩ := IsTlds.at (IsTlds.below HRW.out hb) (i := k) (by omega)
      have HT : Hid _ := toPlanTold ts[k].tk ts[k].wh wr
      go_wp2_with fail
      refine Calls.mono HT.out ?_
      rintro e w1 ⟨rfl, hw1⟩
      have HG1 := hg.below hw1
      have hf0 := HG1.frozen (k * 2)
      have hf1 := HG1.frozen (k * 2 + 1)
      have hd0 : w1.cell? ⟨w.heap.size, k * 2, none⟩ = some cur[k * 2] := by rw [HG1.cell]; simp
      have hd1 : w1.cell? ⟨w.heap.size, k * 2 + 1, none⟩ = some cur[k * 2 + 1] := by rw [HG1.cell]; simp
      have H2 : Hid _ := HG1.set2 (k * 2) (.int .i64 ts[k].tk) (.int .i64 ts[k].wh) (by omega)
      go_wp2_with fail
      go_roundw
      case rel =>
        obtain ⟨cur', q, qs, qo, q0, q1⟩ := H2.out
        refine ⟨k + 1, by omega, by go_num, cur', q, by omega, fun i hi hik => ?_, ((bcall hb hb.size hw1).setCell (Nat.le_refl _) _).setCell (Nat.le_refl _) _⟩
        by_cases e : i = k
        · subst e
          exact ⟨q0, q1⟩
        · obtain ⟨d0, d1⟩ := hc i hi (by omega)
          exact ⟨by rw [qo _ (by omega)]; exact d0, by rw [qo _ (by omega)]; exact d1⟩
      case measure => simp [intOf]; omega
    · go_wp2
      go_ret
      refine ⟨rfl, ⟨hz, Nat.le_refl _, by unfold maxLen; omega, fun _ => ⟨_, 0, rfl, hg.lt, fun i hi => ?_⟩⟩, hb⟩
      obtain ⟨d0, d1⟩ := hc i hi (by omega)
      obtain ⟨_, _, _, _, _, _, _, hw1⟩ := IsTlds.at HRW.out hi
      refine ⟨[.int .i64 ts[i].tk, .int .i64 ts[i].wh], rfl, fun j hj => ?_, rfl, hw1⟩
      rw [hg.cell]
      simp only [List.length_cons, List.length_nil] at hj
      rcases (by omega : j = 0 ∨ j = 1) with rfl | rfl <;> simpa using by assumption
end Go.Proofs.YtghocdiddolinaaGreatDoor

namespace Go.Proofs.YtghocdiddolinaaGreatDoor
set_option linter.unusedVariables false
set_option linter.unusedSimpArgs false
open Go.RowKit Go
namespace Pl

/-- The cells of what was told. -/
def cellsT (t : Tld) : List Value := [.int .i64 t.tk, .int .i64 t.wh]
def flatT (ts : List Tld) : List Value := (ts.map cellsT).flatten
theorem flatT_len : ∀ (ts : List Tld), (flatT ts).length = ts.length * 2 := by
  intro ts
  induction ts with
  | nil => rfl
  | cons t r ih =>
    have hf : flatT (t :: r) = cellsT t ++ flatT r := rfl
    rw [hf, List.length_append, ih]
    simp [cellsT]; omega
theorem flatT_at : ∀ (ts : List Tld) (i j : Nat) (hi : i < ts.length), j < 2 → (flatT ts)[i * 2 + j]? = (cellsT ts[i])[j]? := by
  intro ts
  induction ts with
  | nil => intro i j hi; simp at hi
  | cons t r ih =>
    intro i j hi hj
    have hf : flatT (t :: r) = cellsT t ++ flatT r := rfl
    rw [hf]
    cases i with
    | zero =>
      rw [List.getElem?_append_left (by simp [cellsT]; omega)]
      simp
    | succ i =>
      rw [List.getElem?_append_right (by simp [cellsT]; omega)]
      have h := ih i j (by simpa using hi) hj
      rw [show (i + 1) * 2 + j - (cellsT t).length = i * 2 + j by simp [cellsT]; omega, h]
      simp
theorem flatT_app (a b : List Tld) : flatT (a ++ b) = flatT a ++ flatT b := by simp [flatT]
def GoodT (t : Tld) : Prop := (Lit.int .i64 t.tk).wf = true ∧ (Lit.int .i64 t.wh).wf = true

/-- What was laid as rows of rules, of numbers, or of what was told, stands. -/
structure SameP (W W' : World) : Prop where
  size : W.heap.size ≤ W'.heap.size
  rows : ∀ (k : Nat) (c : Array Value) (t : TypeId) (fz : Nat × Nat), (t = 73 ∨ t = 3 ∨ t = 61) → W.heap[k]? = some (.cells c t fz) → W'.heap[k]? = some (.cells c t fz)
theorem SameP.toT {W W' : World} (h : SameP W W') : Cal.SameT W W' := ⟨h.size, fun k c fz => h.rows k c _ fz (.inl rfl), fun k c fz => h.rows k c _ fz (.inr (.inl rfl))⟩
theorem SameP.below {w w' : World} (h : Below w.heap.size w w') : SameP w w' := ⟨h.size, fun k _ _ _ _ hk => (h.block k (Array.getElem?_eq_some_iff.1 hk).1).trans hk⟩
theorem SameP.trans {a b c : World} (h : SameP a b) (k : SameP b c) : SameP a c := ⟨Nat.le_trans h.size k.size, fun n x t fz ht hn => k.rows n x t fz ht (h.rows n x t fz ht hn)⟩
theorem SameP.setBox {w : World} {N : Nat} {t : TypeId} {cur : Array Value} (h : Holds w N t cur) (ht : t ≠ 73 ∧ t ≠ 3 ∧ t ≠ 61) (i : Nat) (v : Value) : SameP w (w.setCell ⟨N, i, none⟩ v) := by
  refine ⟨by simp, fun k c t' fz ht' hk => ?_⟩
  by_cases e : k = N
  · subst e
    unfold Holds at h
    rw [h] at hk
    simp only [Option.some.injEq, Obj.cells.injEq] at hk
    obtain ⟨_, rfl, _⟩ := hk
    rcases ht' with rfl | rfl | rfl <;> simp at ht
  · rw [Below.heap_setCell w ⟨N, i, none⟩ v k e]; exact hk
theorem own_same {w w' : World} {base : Nat} {t : TypeId} {size n : Nat} {v : Value} {xs : List Value} (h : w.ownsRow base t size v n xs) (hs : SameP w w') (ht : t = 73 ∨ t = 3 ∨ t = 61) : w'.ownsRow base t size v n xs := Cal.own_rows h fun k c fz => hs.rows k c t fz ht

/-- A plan that was gathered: four rows of its own, no two of numbers in one block. -/
def GathP (w : World) (base : Nat) (v0 v4 v5 v6 : Value) (p : Pla) : Prop :=
  ∃ vs, Cal.GathV w base v0 vs p.rs ∧ (w.ownsRow base 3 1 v4 p.goes.length (p.goes.map (Value.int .i64)) ∧ ∀ n ∈ p.goes, (Lit.int .i64 n).wf = true) ∧ (w.ownsRow base 3 1 v5 p.waits.length (p.waits.map (Value.int .i64)) ∧ ∀ n ∈ p.waits, (Lit.int .i64 n).wf = true) ∧
    (w.ownsRow base 61 2 v6 p.told.length (flatT p.told) ∧ ∀ i (h : i < p.told.length), GoodT p.told[i]) ∧
    (∀ b, v4.ownBlock = some b → v5.ownBlock ≠ some b ∧ ∀ i (hi : i < vs.length), vs[i].ownBlock ≠ some b) ∧ ∀ b, v5.ownBlock = some b → ∀ i (hi : i < vs.length), vs[i].ownBlock ≠ some b
theorem GathP.same {w w' : World} {base : Nat} {v0 v4 v5 v6 : Value} {p : Pla} (h : GathP w base v0 v4 v5 v6 p) (hs : SameP w w') : GathP w' base v0 v4 v5 v6 p := by
  obtain ⟨vs, h1, h2, h3, h4, h5⟩ := h
  exact ⟨vs, h1.same hs.toT, ⟨own_same h2.1 hs (.inr (.inl rfl)), h2.2⟩, ⟨own_same h3.1 hs (.inr (.inl rfl)), h3.2⟩, ⟨own_same h4.1 hs (.inr (.inr rfl)), h4.2⟩, h5⟩

theorem row_int {w : World} {base : Nat} {v : Value} {zs : List Int} (h : w.ownsRow base 3 1 v zs.length (zs.map (Value.int .i64))) (hw : ∀ n ∈ zs, (Lit.int .i64 n).wf = true) : ∃ a c, v = .slice a zs.length c ∧ IsRow .i64 w a zs.length c zs := by
  have hr := Row.owned h
  obtain ⟨a, c, hf⟩ := hr.form
  rw [List.length_map] at hf
  rw [hf] at hr
  exact ⟨a, c, hf, (Cal.isRow_of_row hr hw).1⟩
theorem row_told {w : World} {base : Nat} {v : Value} {ts : List Tld} (h : w.ownsRow base 61 2 v ts.length (flatT ts)) (hw : ∀ i (h : i < ts.length), GoodT ts[i]) : ∃ a c, v = .slice a ts.length c ∧ IsTlds w a ts.length c ts := by
  rcases h.2 with ⟨rfl, h0⟩ | ⟨g, cap, cur, rfl, hb, hg, hle, hmx, hsz, htk⟩
  · have : ts = [] := List.length_eq_zero_iff.1 h0
    subst this
    exact ⟨none, 0, rfl, rfl, Nat.le_refl _, Nat.zero_le _, fun h => by simp at h⟩
  · refine ⟨_, cap, rfl, rfl, hle, hmx, fun _ => ⟨g, 0, rfl, (Array.getElem?_eq_some_iff.1 hg).1, fun i hi => ?_⟩⟩
    refine ⟨cellsT ts[i], rfl, fun j hj => ?_, rfl, hw i hi⟩
    have hj2 : j < 2 := by simpa [cellsT] using hj
    have hf := flatT_at ts i j hi hj2
    rw [List.getElem?_eq_getElem hj] at hf
    rw [cell_of_row _ _ _ _ _ _ hg, Nat.zero_add]
    rw [← htk, List.getElem?_take] at hf
    split at hf
    · simpa using hf
    · cases hf
theorem GathP.pla {w : World} {base : Nat} {v0 v4 v5 v6 : Value} {p : Pla} (h : GathP w base v0 v4 v5 v6 p) : ∃ ra rc ga gc wa wc ta tc, v0 = .slice ra p.rs.length rc ∧ v4 = .slice ga p.goes.length gc ∧ v5 = .slice wa p.waits.length wc ∧ v6 = .slice ta p.told.length tc ∧ IsPla w ra p.rs.length rc ga p.goes.length gc wa p.waits.length wc ta p.told.length tc p := by
  obtain ⟨vs, h1, h2, h3, h4, h5⟩ := h
  obtain ⟨ra, rc, e0, k0⟩ := Cal.gath_ruls h1.gath
  obtain ⟨ga, gc, e1, k1⟩ := row_int h2.1 h2.2
  obtain ⟨wa, wc, e2, k2⟩ := row_int h3.1 h3.2
  obtain ⟨ta, tc, e3, k3⟩ := row_told h4.1 h4.2
  exact ⟨ra, rc, ga, gc, wa, wc, ta, tc, e0, e1, e2, e3, k0, k1, k2, k3⟩

set_option maxHeartbeats 400000 in
theorem toPlanToldSG (a : Option Addr) (len cap : Nat) (ts : List Tld) (w : World) (hr : IsTlds w a len cap ts) (hs : len ≤ 1048576) :
    Calls Tryz.prog 27 #[.slice a len cap] w fun e w' => e = .returned (.slice (some ⟨w.heap.size, 0, none⟩) len len) ∧ w'.ownsRow w.heap.size 61 2 (.slice (some ⟨w.heap.size, 0, none⟩) len len) len (flatT ts) ∧ Below w.heap.size w w' := by
  obtain ⟨hz, hm⟩ := IsRecs.len hr
  have HRW : Hid (IsTlds w a len cap ts) := hr
  clear hr
  have hmk := run_make_recs (P := Tryz.prog) 29 61 _ 2 16 Tryz.underlying29 info_PlanTold .i64 .i64 len (by omega) (by omega)
  go_enter Tryz.func27, Tryz.ntmps27
  go_wp2
  go_loopw [4] (fun i wr => ∃ k : Nat, k ≤ len ∧ i = .int .i64 k ∧ ∃ cur, Holds wr w.heap.size 61 cur ∧ cur.size = len * 2 ∧ TldsTo k cur ts ∧ Below w.heap.size w wr) (fun i _ => len - (intOf i).toNat)
  case atStart => exact ⟨0, Nat.zero_le _, rfl, _, heap_alloc_new _ _, size_madeCells _ _, fun i _ h => by omega, (Below.refl _ _).alloc (Nat.le_refl _) _⟩
  case round =>
    obtain ⟨k, hk, rfl, cur, hg, hcs, hc, hb⟩ := hrel
    by_cases hlt : k < len
    · obtain ⟨b, off, rfl, h1, hbl, c0, c1, _⟩ := IsTlds.at (IsTlds.below HRW.out hb) (i := k) (by omega)
      have HT : Hid _ := toPlanTold ts[k].tk ts[k].wh wr
      go_wp2_with fail
      refine Calls.mono HT.out ?_
      rintro e w1 ⟨rfl, hw1⟩
      have HG1 := hg.below hw1
      have hf0 := HG1.frozen (k * 2)
      have hf1 := HG1.frozen (k * 2 + 1)
      have hd0 : w1.cell? ⟨w.heap.size, k * 2, none⟩ = some cur[k * 2] := by rw [HG1.cell]; simp
      have hd1 : w1.cell? ⟨w.heap.size, k * 2 + 1, none⟩ = some cur[k * 2 + 1] := by rw [HG1.cell]; simp
      have H2 : Hid _ := HG1.set2 (k * 2) (.int .i64 ts[k].tk) (.int .i64 ts[k].wh) (by omega)
      go_wp2_with fail
      go_roundw
      case rel =>
        obtain ⟨cur', q, qs, qo, q0, q1⟩ := H2.out
        refine ⟨k + 1, by omega, by go_num, cur', q, by omega, fun i hi hik => ?_, ((bcall hb hb.size hw1).setCell (Nat.le_refl _) _).setCell (Nat.le_refl _) _⟩
        by_cases e : i = k
        · subst e
          exact ⟨q0, q1⟩
        · obtain ⟨d0, d1⟩ := hc i hi (by omega)
          exact ⟨by rw [qo _ (by omega)]; exact d0, by rw [qo _ (by omega)]; exact d1⟩
      case measure => simp [intOf]; omega
    · have hkl : k = len := by omega
      subst hkl
      go_wp2
      go_ret
      refine ⟨rfl, ⟨by rw [flatT_len, hz], .inr ⟨w.heap.size, k, cur, rfl, Nat.le_refl _, hg, Nat.le_refl _, by unfold maxLen; omega, by omega, ?_⟩⟩, hb⟩
      rw [List.take_of_length_le (by simp [hcs])]
      refine List.ext_getElem? fun n => ?_
      by_cases hn : n < ts.length * 2
      · obtain ⟨i, j, hj, rfl⟩ : ∃ i j, j < 2 ∧ n = i * 2 + j := ⟨n / 2, n % 2, Nat.mod_lt _ (by omega), by omega⟩
        have hi : i < ts.length := by omega
        rw [flatT_at _ i j hi hj, Array.getElem?_toList]
        obtain ⟨d0, d1⟩ := hc i hi (by omega)
        rcases (by omega : j = 0 ∨ j = 1) with rfl | rfl <;> first | exact d0 | exact d1
      · rw [List.getElem?_eq_none (by simp [hcs]; omega), List.getElem?_eq_none (by rw [flatT_len]; omega)]
end Pl
end Go.Proofs.YtghocdiddolinaaGreatDoor
