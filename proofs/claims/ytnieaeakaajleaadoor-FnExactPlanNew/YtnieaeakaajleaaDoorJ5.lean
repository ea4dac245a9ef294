/- The law's copies of rules of a calendar. -/
import Derived.Test.YtnieaeakaajleaaDoorJ4
import Derived.Test.YtnieaeakaajleaaDoorJ2
namespace Go.Proofs.YtnieaeakaajleaaDoor
set_option linter.unusedVariables false
set_option linter.unusedSimpArgs false
open Go.RowKit Go
namespace Cal
/-- What is good in an entry. -/
def GoodR (e : Rul) : Prop := (Lit.int .i64 e.ev).wf = true ∧ (Lit.int .i64 e.at_).wf = true ∧ (Lit.int .i64 e.fr).wf = true ∧ (Lit.int .i64 e.to_).wf = true ∧ ∀ z ∈ e.but, (Lit.int .i64 z).wf = true
/-- The slice v gathers the entries es, in blocks from base on, no two rows in one. -/
def Gath (w : World) (base : Nat) (v : Value) (es : List Rul) : Prop :=
  ∃ vs : List Value, ∃ hv : vs.length = es.length, w.ownsRow base 47 5 v es.length (flatR es vs) ∧
    (∀ i (h : i < es.length), w.ownsRow base 3 1 (vs[i]'(by omega)) es[i].but.length (es[i].but.map (Value.int .i64)) ∧ GoodR es[i]) ∧
    ∀ i j (hi : i < vs.length) (hj : j < vs.length), i < j → ∀ b c, vs[i].ownBlock = some b → vs[j].ownBlock = some c → b < c
theorem Gath.nil (w : World) (base : Nat) : Gath w base (.slice none 0 0) [] := ⟨[], rfl, World.ownsRow_nil _ _ _ _, fun i h => by simp at h, fun i j hi => by simp at hi⟩

/-- What was laid as rows of entries or of numbers stands. -/
structure SameT (W W' : World) : Prop where
  size : W.heap.size ≤ W'.heap.size
  rows : ∀ (k : Nat) (c : Array Value) (fz : Nat × Nat), W.heap[k]? = some (.cells c 47 fz) → W'.heap[k]? = some (.cells c 47 fz)
  nums : ∀ (k : Nat) (c : Array Value) (fz : Nat × Nat), W.heap[k]? = some (.cells c 3 fz) → W'.heap[k]? = some (.cells c 3 fz)
theorem own_rows {w w' : World} {base : Nat} {e : TypeId} {size : Nat} {v : Value} {n : Nat} {xs : List Value} (h : w.ownsRow base e size v n xs) (hk : ∀ (k : Nat) (c : Array Value) (fz : Nat × Nat), w.heap[k]? = some (.cells c e fz) → w'.heap[k]? = some (.cells c e fz)) : w'.ownsRow base e size v n xs := by
  refine ⟨h.1, ?_⟩
  rcases h.2 with h | ⟨g, cap, cur, h1, h2, h3, h4⟩
  · exact .inl h
  · exact .inr ⟨g, cap, cur, h1, h2, hk _ _ _ h3, h4⟩
theorem Gath.same {w w' : World} {base : Nat} {v : Value} {es : List Rul} (h : Gath w base v es) (hs : SameT w w') : Gath w' base v es := by
  obtain ⟨vs, hv, h1, h2, h3⟩ := h
  exact ⟨vs, hv, own_rows h1 hs.rows, fun i hi => ⟨own_rows (h2 i hi).1 hs.nums, (h2 i hi).2⟩, h3⟩
theorem SameT.below {w w' : World} (h : Below w.heap.size w w') : SameT w w' :=
  ⟨h.size, fun k c fz hk => (h.block k (Array.getElem?_eq_some_iff.1 hk).1).trans hk, fun k c fz hk => (h.block k (Array.getElem?_eq_some_iff.1 hk).1).trans hk⟩
theorem SameT.grown {w w' : World} {row : Option Nat} (hg : w.grownBy w' row) (hr : ∀ r, row = some r → ∀ c fz, w.heap[r]? ≠ some (.cells c 47 fz) ∧ w.heap[r]? ≠ some (.cells c 3 fz)) : SameT w w' :=
  ⟨hg.size, fun k c fz hk => (hg.block k (Array.getElem?_eq_some_iff.1 hk).1 (fun e => (hr k e.symm c fz).1 hk)).trans hk, fun k c fz hk => (hg.block k (Array.getElem?_eq_some_iff.1 hk).1 (fun e => (hr k e.symm c fz).2 hk)).trans hk⟩


theorem gath_ruls {w : World} {base : Nat} {v : Value} {es : List Rul} (h : Gath w base v es) : ∃ a cap, v = .slice a es.length cap ∧ IsRuls w a es.length cap es := by
  obtain ⟨vs, hv, h1, h2, _⟩ := h
  have hrow : ∀ i (hi : i < es.length), ∃ a l c, vs[i]'(by omega) = .slice a l c ∧ IsRow .i64 w a l c es[i].but := fun i hi => by
    obtain ⟨h3, h4⟩ := h2 i hi
    have hr := Row.owned h3
    obtain ⟨a, c, hf⟩ := hr.form
    rw [List.length_map] at hf
    rw [hf] at hr
    exact ⟨a, _, c, hf, (isRow_of_row hr h4.2.2.2.2).1⟩
  rcases h1.2 with ⟨rfl, h0⟩ | ⟨g, cap, cur, rfl, hb, hg, hle, hmx, hsz, htk⟩
  · have : es = [] := List.length_eq_zero_iff.1 h0
    subst this
    exact ⟨none, 0, rfl, rfl, Nat.le_refl _, Nat.zero_le _, fun h => by simp at h⟩
  · refine ⟨_, cap, rfl, rfl, hle, hmx, fun _ => ⟨g, 0, rfl, (Array.getElem?_eq_some_iff.1 hg).1, fun i hi => ?_⟩⟩
    obtain ⟨a, l, c, hvi, hri⟩ := hrow i hi
    refine ⟨cellsR es[i] (vs[i]'(by omega)), rfl, fun j hj => ?_, a, l, c, by rw [hvi]; rfl, hri, (h2 i hi).2.1, (h2 i hi).2.2.1, (h2 i hi).2.2.2.1, (h2 i hi).2.2.2.2.1⟩
    · have hj5 : j < 5 := by simpa [cellsR] using hj
      have hf := flatR_at es vs i j hv hi hj5
      rw [List.getElem?_eq_getElem hj] at hf
      rw [cell_of_row _ _ _ _ _ _ hg, Nat.zero_add]
      rw [← htk, List.getElem?_take] at hf
      split at hf
      · simpa using hf
      · cases hf
end Cal
end Go.Proofs.YtnieaeakaajleaaDoor

namespace Go.Proofs.YtnieaeakaajleaaDoor
set_option linter.unusedVariables false
set_option linter.unusedSimpArgs false
open Go.RowKit Go

set_option maxHeartbeats 400000 in
theorem toCalRule (ev at_ fr to_ : Int) (a : Option Addr) (len cap : Nat) (zs : List Int) (w : World) (hr : IsRow .i64 w a len cap zs) (hs : len ≤ 1048576) :
    Calls Tryd.prog 19 #[.agg #[.int .i64 ev, .int .i64 at_, .int .i64 fr, .int .i64 to_, .slice a len cap]] w fun e w' => (∃ b, e = .returned (.agg #[.int .i64 ev, .int .i64 at_, .int .i64 fr, .int .i64 to_, .slice (some ⟨b, 0, none⟩) len len]) ∧ w.heap.size ≤ b ∧ IsRow .i64 w' (some ⟨b, 0, none⟩) len len zs) ∧ Below w.heap.size w w' := by
  have HT : Hid (∀ w, IsRow .i64 w a len cap zs → Calls Tryd.prog 36 #[.slice a len cap] w fun e w' => e = .returned (.slice (some ⟨w.heap.size, 0, none⟩) len len) ∧ IsRow .i64 w' (some ⟨w.heap.size, 0, none⟩) len len zs ∧ Below w.heap.size w w') := fun w hr => toIntS a len cap zs w hr hs
  have HR : Hid (IsRow .i64 w a len cap zs) := hr
  clear hr hs
  go_enter Tryd.func19, Tryd.ntmps19
  go_wp2_with fail
  refine (HT.out _ (by exact ((IsRow.alloc HR.out _).alloc _).alloc _)).mono ?_
  rintro e w1 ⟨rfl, hn, hb⟩
  obtain ⟨hcx, hfx⟩ := bcell hb
  go_wp2_with fail
  refine bodyPost_ret (v := .agg #[.int .i64 ev, .int .i64 at_, .int .i64 fr, .int .i64 to_, .slice (some ⟨w.heap.size + 1 + 1 + 1, 0, none⟩) len len]) ?_ rfl ?_
  · simp [results, Tryd.results19, go_sem, hcx]
  · have e : ((((w.alloc
                  (Obj.cells #[Value.int IntKind.i64 ev, Value.int IntKind.i64 at_, Value.int IntKind.i64 fr, Value.int IntKind.i64 to_, Value.slice a len cap]
                    46)).alloc
              (Obj.cells
                #[Value.int IntKind.i64 0, Value.int IntKind.i64 0, Value.int IntKind.i64 0, Value.int IntKind.i64 0,
                  Value.slice none 0 0]
                47)).alloc
          (Obj.cells #[Value.int IntKind.i64 ev, Value.int IntKind.i64 at_, Value.int IntKind.i64 fr, Value.int IntKind.i64 to_, Value.slice none 0 0]
            47))).heap.size = w.heap.size + 1 + 1 + 1 := by simp
    rw [e] at hn
    refine ⟨⟨_, rfl, by omega, ?_⟩, ?_⟩
    · exact (((((hn.setElse (by simp) _).setElse (by simp) _).setElse (by simp) _).setElse (by simp) _).setElse (by simp) _).setElse (by simp) _
    · have h3 : Below w.heap.size w w1 := bcall ((((Below.refl _ _).alloc (Nat.le_refl _) _).alloc (by simp) _).alloc (by simp; omega) _) (by simp; omega) hb
      exact (((((h3.setCell (by simp; omega) _).setCell (by simp) _).setCell (by simp) _).setCell (by simp) _).setCell (by simp) _).setCell (by simp) _


/-- What was copied, up to k. -/
def RulsTo (w wr : World) (N k : Nat) (cur : Array Value) (rs : List Rul) : Prop :=
  ∀ i (h : i < rs.length), i < k → ∃ b, N < b ∧ cur[i * 5]? = some (.int .i64 rs[i].ev) ∧ cur[i * 5 + 1]? = some (.int .i64 rs[i].at_) ∧ cur[i * 5 + 2]? = some (.int .i64 rs[i].fr) ∧ cur[i * 5 + 3]? = some (.int .i64 rs[i].to_) ∧ cur[i * 5 + 4]? = some (.slice (some ⟨b, 0, none⟩) rs[i].but.length rs[i].but.length) ∧ IsRow .i64 wr (some ⟨b, 0, none⟩) rs[i].but.length rs[i].but.length rs[i].but

set_option maxHeartbeats 400000 in
theorem toCalRuleS (a : Option Addr) (len cap : Nat) (rs : List Rul) (w : World) (hr : IsRuls w a len cap rs) (hs : len ≤ 1048576) (hsm : ∀ i (h : i < rs.length), rulSmall rs[i]) :
    Calls Tryd.prog 7 #[.slice a len cap] w fun e w' => e = .returned (.slice (some ⟨w.heap.size, 0, none⟩) len len) ∧ IsRuls w' (some ⟨w.heap.size, 0, none⟩) len len rs ∧ Below w.heap.size w w' := by
  obtain ⟨hz, hm⟩ := IsRecs.len hr
  have HRW : Hid (IsRuls w a len cap rs) := hr
  clear hr
  have hmk := run_make_recs (P := Tryd.prog) 24 47 _ 5 56 Tryd.underlying24 info_CalRule .i64 .i64 len (by omega) (by omega)
  go_enter Tryd.func7, Tryd.ntmps7
  go_wp2
  go_loopw [4] (fun i wr => ∃ k : Nat, k ≤ len ∧ i = .int .i64 k ∧ ∃ cur, Holds wr w.heap.size 47 cur ∧ cur.size = len * 5 ∧ RulsTo w wr w.heap.size k cur rs ∧ Below w.heap.size w wr) (fun i _ => len - (intOf i).toNat)
  case atStart => exact ⟨0, Nat.zero_le _, rfl, _, heap_alloc_new _ _, size_madeCells _ _, fun i _ h => by omega, (Below.refl _ _).alloc (Nat.le_refl _) _⟩
  case round =>
    obtain ⟨k, hk, rfl, cur, hg, hcs, hc, hb⟩ := hrel
    by_cases hlt : k < len
    · obtain ⟨b, off, rfl, h1, hbl, a', l', c', c0, c1, c2, c3, c4, hrow, _⟩ := IsRuls.at (IsRuls.below HRW.out hb) (i := k) (by omega)
      have hl := hrow.len
      have HT : Hid _ := toCalRule rs[k].ev rs[k].at_ rs[k].fr rs[k].to_ a' l' c' rs[k].but wr hrow (by have := hsm k (by omega); unfold rulSmall at this; omega)
      go_wp2_with fail
      refine Calls.mono HT.out ?_
      rintro e w1 ⟨⟨b2, rfl, hb2, hrow2⟩, hw1⟩
      have HG1 := hg.below hw1
      have hf0 := HG1.frozen (k * 5)
      have hf1 := HG1.frozen (k * 5 + 1)
      have hf2 := HG1.frozen (k * 5 + 2)
      have hf3 := HG1.frozen (k * 5 + 3)
      have hf4 := HG1.frozen (k * 5 + 4)
      have hd0 : w1.cell? ⟨w.heap.size, k * 5, none⟩ = some cur[k * 5] := by rw [HG1.cell]; simp
      have hd1 : w1.cell? ⟨w.heap.size, k * 5 + 1, none⟩ = some cur[k * 5 + 1] := by rw [HG1.cell]; simp
      have hd2 : w1.cell? ⟨w.heap.size, k * 5 + 2, none⟩ = some cur[k * 5 + 2] := by rw [HG1.cell]; simp
      have hd3 : w1.cell? ⟨w.heap.size, k * 5 + 3, none⟩ = some cur[k * 5 + 3] := by rw [HG1.cell]; simp
      have hd4 : w1.cell? ⟨w.heap.size, k * 5 + 4, none⟩ = some cur[k * 5 + 4] := by rw [HG1.cell]; simp
      have H5 : Hid _ := HG1.set5 (k * 5) (.int .i64 rs[k].ev) (.int .i64 rs[k].at_) (.int .i64 rs[k].fr) (.int .i64 rs[k].to_) (.slice (some ⟨b2, 0, none⟩) l' l') (by omega)
      go_wp2_with fail
      go_roundw
      case rel =>
        obtain ⟨cur', q, qs, qo, q0, q1, q2, q3, q4⟩ := H5.out
        refine ⟨k + 1, by omega, by go_num, cur', q, by omega, fun i hi hik => ?_, below_set5 (bcall hb hb.size hw1) (Nat.le_refl _) _ _ _ _ _ _⟩
        by_cases e : i = k
        · subst e
          have := hg.lt
          rw [hl.1]
          exact ⟨b2, by omega, q0, q1, q2, q3, q4, hrow2.set5 (by omega) _ _ _ _ _ _⟩
        · obtain ⟨b3, g, d0, d1, d2, d3, d4, hrow3⟩ := hc i hi (by omega)
          refine ⟨b3, g, ?_, ?_, ?_, ?_, ?_, (hrow3.below hw1).set5 (by omega) _ _ _ _ _ _⟩
          · rw [qo _ (by omega)]; exact d0
          · rw [qo _ (by omega)]; exact d1
          · rw [qo _ (by omega)]; exact d2
          · rw [qo _ (by omega)]; exact d3
          · rw [qo _ (by omega)]; exact d4
      case measure => simp [intOf]; omega
    · go_wp2
      go_ret
      refine ⟨rfl, ⟨hz, Nat.le_refl _, by unfold maxLen; omega, fun _ => ⟨_, 0, rfl, hg.lt, fun i hi => ?_⟩⟩, hb⟩
      obtain ⟨b, _, d0, d1, d2, d3, d4, hrow⟩ := hc i hi (by omega)
      obtain ⟨_, _, _, _, _, _, _, _, _, _, _, _, _, _, hw1⟩ := IsRuls.at HRW.out hi
      refine ⟨[.int .i64 rs[i].ev, .int .i64 rs[i].at_, .int .i64 rs[i].fr, .int .i64 rs[i].to_, .slice (some ⟨b, 0, none⟩) rs[i].but.length rs[i].but.length], rfl, fun j hj => ?_, _, _, _, rfl, hrow, hw1⟩
      rw [hg.cell]
      simp only [List.length_cons, List.length_nil] at hj
      rcases (by omega : j = 0 ∨ j = 1 ∨ j = 2 ∨ j = 3 ∨ j = 4) with rfl | rfl | rfl | rfl | rfl <;> simpa using by assumption
end Go.Proofs.YtnieaeakaajleaaDoor
