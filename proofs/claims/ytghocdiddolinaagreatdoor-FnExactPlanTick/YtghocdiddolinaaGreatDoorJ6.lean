/- The law's copies of rules of a calendar: what was copied is a row of its own, and of each one's numbers a row of its own. -/
import Derived.Test.YtghocdiddolinaaGreatDoorJ2
import Derived.Test.YtghocdiddolinaaGreatDoorJ5
namespace Go.Proofs.YtghocdiddolinaaGreatDoor
set_option linter.unusedVariables false
set_option linter.unusedSimpArgs false
open Go.RowKit Go

set_option maxHeartbeats 400000 in
theorem toCalRule (ev at_ fr to_ : Int) (a : Option Addr) (len cap : Nat) (zs : List Int) (w : World) (hr : IsRow .i64 w a len cap zs) (hs : len ≤ 1048576) :
    Calls Tryz.prog 48 #[.agg #[.int .i64 ev, .int .i64 at_, .int .i64 fr, .int .i64 to_, .slice a len cap]] w fun e w' => (∃ b, e = .returned (.agg #[.int .i64 ev, .int .i64 at_, .int .i64 fr, .int .i64 to_, .slice (some ⟨b, 0, none⟩) len len]) ∧ w.heap.size ≤ b ∧ IsRow .i64 w' (some ⟨b, 0, none⟩) len len zs) ∧ Below w.heap.size w w' := by
  have HT : Hid (∀ w, IsRow .i64 w a len cap zs → Calls Tryz.prog 26 #[.slice a len cap] w fun e w' => e = .returned (.slice (some ⟨w.heap.size, 0, none⟩) len len) ∧ IsRow .i64 w' (some ⟨w.heap.size, 0, none⟩) len len zs ∧ Below w.heap.size w w') := fun w hr => toIntS a len cap zs w hr hs
  have HR : Hid (IsRow .i64 w a len cap zs) := hr
  clear hr hs
  go_enter Tryz.func48, Tryz.ntmps48
  go_wp2_with fail
  refine (HT.out _ (by exact ((IsRow.alloc HR.out _).alloc _).alloc _)).mono ?_
  rintro e w1 ⟨rfl, hn, hb⟩
  obtain ⟨hcx, hfx⟩ := bcell hb
  go_wp2_with fail
  refine bodyPost_ret (v := .agg #[.int .i64 ev, .int .i64 at_, .int .i64 fr, .int .i64 to_, .slice (some ⟨w.heap.size + 1 + 1 + 1, 0, none⟩) len len]) ?_ rfl ?_
  · simp [results, Tryz.results48, go_sem, hcx]
  · have e : ((((w.alloc
                  (Obj.cells #[Value.int IntKind.i64 ev, Value.int IntKind.i64 at_, Value.int IntKind.i64 fr, Value.int IntKind.i64 to_, Value.slice a len cap]
                    66)).alloc
              (Obj.cells
                #[Value.int IntKind.i64 0, Value.int IntKind.i64 0, Value.int IntKind.i64 0, Value.int IntKind.i64 0,
                  Value.slice none 0 0]
                73)).alloc
          (Obj.cells #[Value.int IntKind.i64 ev, Value.int IntKind.i64 at_, Value.int IntKind.i64 fr, Value.int IntKind.i64 to_, Value.slice none 0 0]
            73))).heap.size = w.heap.size + 1 + 1 + 1 := by simp
    rw [e] at hn
    refine ⟨⟨_, rfl, by omega, ?_⟩, ?_⟩
    · exact (((((hn.setElse (by simp) _).setElse (by simp) _).setElse (by simp) _).setElse (by simp) _).setElse (by simp) _).setElse (by simp) _
    · have h3 : Below w.heap.size w w1 := bcall ((((Below.refl _ _).alloc (Nat.le_refl _) _).alloc (by simp) _).alloc (by simp; omega) _) (by simp; omega) hb
      exact (((((h3.setCell (by simp; omega) _).setCell (by simp) _).setCell (by simp) _).setCell (by simp) _).setCell (by simp) _).setCell (by simp) _


/-- What was copied, up to k. -/
def RulsTo (w wr : World) (N k : Nat) (cur : Array Value) (rs : List Rul) : Prop :=
  ∀ i (h : i < rs.length), i < k → ∃ b, N < b ∧ cur[i * 5]? = some (.int .i64 rs[i].ev) ∧ cur[i * 5 + 1]? = some (.int .i64 rs[i].at_) ∧ cur[i * 5 + 2]? = some (.int .i64 rs[i].fr) ∧ cur[i * 5 + 3]? = some (.int .i64 rs[i].to_) ∧ cur[i * 5 + 4]? = some (.slice (some ⟨b, 0, none⟩) rs[i].but.length rs[i].but.length) ∧ IsRow .i64 wr (some ⟨b, 0, none⟩) rs[i].but.length rs[i].but.length rs[i].but

set_option maxHeartbeats 400000 in
theorem toCalRuleS (a : Option Addr) (len cap : Nat) (rs : List Rul) (w : World) (hr : IsRuls w a len cap rs) (hs : len ≤ 1048576) (hsm : ∀ i (h : i < rs.length), rulSmall rs[i]) :
    Calls Tryz.prog 25 #[.slice a len cap] w fun e w' => e = .returned (.slice (some ⟨w.heap.size, 0, none⟩) len len) ∧ IsRuls w' (some ⟨w.heap.size, 0, none⟩) len len rs ∧ Below w.heap.size w w' := by
  obtain ⟨hz, hm⟩ := IsRecs.len hr
  have HRW : Hid (IsRuls w a len cap rs) := hr
  clear hr
  have hmk := run_make_recs (P := Tryz.prog) 28 73 _ 5 56 Tryz.underlying28 info_CalRule .i64 .i64 len (by omega) (by omega)
  go_enter Tryz.func25, Tryz.ntmps25
  go_wp2
  go_loopw [4] (fun i wr => ∃ k : Nat, k ≤ len ∧ i = .int .i64 k ∧ ∃ cur, Holds wr w.heap.size 73 cur ∧ cur.size = len * 5 ∧ RulsTo w wr w.heap.size k cur rs ∧ Below w.heap.size w wr) (fun i _ => len - (intOf i).toNat)
  case atStart => exact ⟨0, Nat.zero_le _, rfl, _, heap_alloc_new _ _, size_madeCells _ _, fun i _ h => by omega, (Below.refl _ _).alloc (Nat.le_refl _) _⟩
  case round =>
    obtain ⟨k, hk, rfl, cur, hg, hcs, hc, hb⟩ := hrel
    by_cases hlt : k < len
    · obtain ⟨b, off, rfl, h1, hbl, a', l', c', c0, c1, c2, c3, c4, hrow, _⟩ := IsRuls.at (IsRuls.below HRW.out hb) (i := k) (by omega)
      have hl := hrow.len
      have HT : Hid _ := toCalRule rs[k].ev rs[k].at_ rs[k].fr rs[k].to_ a' l' c' rs[k].but wr hrow (by have := hsm k (by omega); unfold rulSmall at this; omega)
      go_wp2_with fail
      refine Calls.mono HT.out ?_
      rintro e w1 ⟨⟨b2, rfl, hb2, hrow2⟩, hw1⟩
      have HG1 := hg.below hw1
      have hf0 := HG1.frozen (k * 5)
      have hf1 := HG1.frozen (k * 5 + 1)
      have hf2 := HG1.frozen (k * 5 + 2)
      have hf3 := HG1.frozen (k * 5 + 3)
      have hf4 := HG1.frozen (k * 5 + 4)
      have hd0 : w1.cell? ⟨w.heap.size, k * 5, none⟩ = some cur[k * 5] := by rw [HG1.cell]; simp
      have hd1 : w1.cell? ⟨w.heap.size, k * 5 + 1, none⟩ = some cur[k * 5 + 1] := by rw [HG1.cell]; simp
      have hd2 : w1.cell? ⟨w.heap.size, k * 5 + 2, none⟩ = some cur[k * 5 + 2] := by rw [HG1.cell]; simp
      have hd3 : w1.cell? ⟨w.heap.size, k * 5 + 3, none⟩ = some cur[k * 5 + 3] := by rw [HG1.cell]; simp
      have hd4 : w1.cell? ⟨w.heap.size, k * 5 + 4, none⟩ = some cur[k * 5 + 4] := by rw [HG1.cell]; simp
      have H5 : Hid _ := HG1.set5 (k * 5) (.int .i64 rs[k].ev) (.int .i64 rs[k].at_) (.int .i64 rs[k].fr) (.int .i64 rs[k].to_) (.slice (some ⟨b2, 0, none⟩) l' l') (by omega)
      go_wp2_with fail
      go_roundw
      case rel =>
        obtain ⟨cur', q, qs, qo, q0, q1, q2, q3, q4⟩ := H5.out
        refine ⟨k + 1, by omega, by go_num, cur', q, by omega, fun i hi hik => ?_, below_set5 (bcall hb hb.size hw1) (Nat.le_refl _) _ _ _ _ _ _⟩
        by_cases e : i = k
        · subst e
          have := hg.lt
          rw [hl.1]
          exact ⟨b2, by omega, q0, q1, q2, q3, q4, hrow2.set5 (by omega) _ _ _ _ _ _⟩
        · obtain ⟨b3, g, d0, d1, d2, d3, d4, hrow3⟩ := hc i hi (by omega)
          refine ⟨b3, g, ?_, ?_, ?_, ?_, ?_, (hrow3.below hw1).set5 (by omega) _ _ _ _ _ _⟩
          · rw [qo _ (by omega)]; exact d0
          · rw [qo _ (by omega)]; exact d1
          · rw [qo _ (by omega)]; exact d2
          · rw [qo _ (by omega)]; exact d3
          · rw [qo _ (by omega)]; exact d4
      case measure => simp [intOf]; omega
    · go_wp2
      go_ret
      refine ⟨rfl, ⟨hz, Nat.le_refl _, by unfold maxLen; omega, fun _ => ⟨_, 0, rfl, hg.lt, fun i hi => ?_⟩⟩, hb⟩
      obtain ⟨b, _, d0, d1, d2, d3, d4, hrow⟩ := hc i hi (by omega)
      obtain ⟨_, _, _, _, _, _, _, _, _, _, _, _, _, _, hw1⟩ := IsRuls.at HRW.out hi
      refine ⟨[.int .i64 rs[i].ev, .int .i64 rs[i].at_, .int .i64 rs[i].fr, .int .i64 rs[i].to_, .slice (some ⟨b, 0, none⟩) rs[i].but.length rs[i].but.length], rfl, fun j hj => ?_, _, _, _, rfl, hrow, hw1⟩
      rw [hg.cell]
      simp only [List.length_cons, List.length_nil] at hj
      rcases (by omega : j = 0 ∨ j = 1 ∨ j = 2 ∨ j = 3 ∨ j = 4) with rfl | rfl | rfl | rfl | rfl <;> simpa using by assumption
end Go.Proofs.YtghocdiddolinaaGreatDoor

namespace Go.Proofs.YtghocdiddolinaaGreatDoor
set_option linter.unusedVariables false
set_option linter.unusedSimpArgs false
open Go.RowKit Go
namespace Cal

/-- What gathers rules, its rows of numbers told. -/
def GathV (w : World) (base : Nat) (v : Value) (vs : List Value) (es : List Rul) : Prop :=
  ∃ hv : vs.length = es.length, w.ownsRow base 73 5 v es.length (flatR es vs) ∧
    (∀ i (h : i < es.length), w.ownsRow base 3 1 (vs[i]'(by omega)) es[i].but.length (es[i].but.map (Value.int .i64)) ∧ GoodR es[i]) ∧
    ∀ i j (hi : i < vs.length) (hj : j < vs.length), i < j → ∀ b c, vs[i].ownBlock = some b → vs[j].ownBlock = some c → b < c
theorem GathV.gath {w : World} {base : Nat} {v : Value} {vs : List Value} {es : List Rul} (h : GathV w base v vs es) : Gath w base v es := ⟨vs, h⟩
theorem GathV.same {w w' : World} {base : Nat} {v : Value} {vs : List Value} {es : List Rul} (h : GathV w base v vs es) (hs : SameT w w') : GathV w' base v vs es := by
  obtain ⟨hv, h1, h2, h3⟩ := h
  exact ⟨hv, own_rows h1 hs.rows, fun i hi => ⟨own_rows (h2 i hi).1 hs.nums, (h2 i hi).2⟩, h3⟩

theorem own_else {w : World} {base g n : Nat} {t : TypeId} {size cap : Nat} {xs : List Value} (h : w.ownsRow base t size (.slice (some ⟨g, 0, none⟩) n cap) n xs) {p : Addr} (hp : p.block ≠ g) (u : Value) : (w.setCell p u).ownsRow base t size (.slice (some ⟨g, 0, none⟩) n cap) n xs := by
  refine ⟨h.1, .inr ?_⟩
  rcases h.2 with ⟨h0, _⟩ | ⟨g', cap', cur, h1, h2, h3, h4⟩
  · cases h0
  · have hg : g' = g := by simp only [Value.slice.injEq, Option.some.injEq, Addr.mk.injEq, and_true] at h1; omega
    subst hg
    exact ⟨g', cap', cur, h1, h2, (Below.heap_setCell w p u g' (fun e => hp e.symm)).trans h3, h4⟩
theorem own_base {w : World} {base base' : Nat} {t : TypeId} {size n : Nat} {v : Value} {xs : List Value} (h : w.ownsRow base t size v n xs) (hb : base' ≤ base) : w.ownsRow base' t size v n xs := by
  refine ⟨h.1, ?_⟩
  rcases h.2 with h | ⟨g, cap, cur, h1, h2, h3⟩
  · exact .inl h
  · exact .inr ⟨g, cap, cur, h1, by omega, h3⟩

theorem toIntG (a : Option Addr) (len cap : Nat) (zs : List Int) (w : World) (hr : IsRow .i64 w a len cap zs) (hs : len ≤ 1048576) :
    Calls Tryz.prog 26 #[.slice a len cap] w fun e w' => e = .returned (.slice (some ⟨w.heap.size, 0, none⟩) len len) ∧ w'.ownsRow w.heap.size 3 1 (.slice (some ⟨w.heap.size, 0, none⟩) len len) len (zs.map (Value.int .i64)) ∧ Below w.heap.size w w' := by
  have hz := hr.1
  refine (toInts a len cap zs w hr hs).mono ?_
  rintro e w' ⟨cur, rfl, hg, hcs, hc, hb⟩
  refine ⟨rfl, ⟨by simp [hz], .inr ⟨w.heap.size, len, cur, rfl, Nat.le_refl _, hg, Nat.le_refl _, by unfold maxLen; omega, by omega, ?_⟩⟩, hb⟩
  rw [Nat.mul_one, List.take_of_length_le (by simp [hcs])]
  refine List.ext_getElem? fun i => ?_
  by_cases hi : i < len
  · have := hc i hi
    rw [List.getElem?_map, List.getElem?_eq_getElem (by omega : i < zs.length), Option.map_some, Array.getElem?_toList, this, getD_at zs i (by omega)]
  · rw [List.getElem?_eq_none (by simp [hcs]; omega), List.getElem?_eq_none (by simp [hz]; omega)]

set_option maxHeartbeats 400000 in
theorem toCalRuleG (ev at_ fr to_ : Int) (a : Option Addr) (len cap : Nat) (zs : List Int) (w : World) (hr : IsRow .i64 w a len cap zs) (hs : len ≤ 1048576) :
    Calls Tryz.prog 48 #[.agg #[.int .i64 ev, .int .i64 at_, .int .i64 fr, .int .i64 to_, .slice a len cap]] w fun e w' => (∃ b, e = .returned (.agg #[.int .i64 ev, .int .i64 at_, .int .i64 fr, .int .i64 to_, .slice (some ⟨b, 0, none⟩) len len]) ∧ w.heap.size ≤ b ∧ b < w'.heap.size ∧ w'.ownsRow w.heap.size 3 1 (.slice (some ⟨b, 0, none⟩) len len) len (zs.map (Value.int .i64))) ∧ Below w.heap.size w w' := by
  have HT : Hid (∀ w, IsRow .i64 w a len cap zs → Calls Tryz.prog 26 #[.slice a len cap] w fun e w' => e = .returned (.slice (some ⟨w.heap.size, 0, none⟩) len len) ∧ w'.ownsRow w.heap.size 3 1 (.slice (some ⟨w.heap.size, 0, none⟩) len len) len (zs.map (Value.int .i64)) ∧ Below w.heap.size w w') := fun w hr => toIntG a len cap zs w hr hs
  have HR : Hid (IsRow .i64 w a len cap zs) := hr
  clear hr hs
  go_enter Tryz.func48, Tryz.ntmps48
  go_wp2_with fail
  refine (HT.out _ (by exact ((IsRow.alloc HR.out _).alloc _).alloc _)).mono ?_
  rintro e w1 ⟨rfl, hn, hb⟩
  obtain ⟨hcx, hfx⟩ := bcell hb
  have HN : Hid _ := hn
  clear hn
  go_wp2_with fail
  refine bodyPost_ret (v := .agg #[.int .i64 ev, .int .i64 at_, .int .i64 fr, .int .i64 to_, .slice (some ⟨w.heap.size + 1 + 1 + 1, 0, none⟩) len len]) ?_ rfl ?_
  · simp [results, Tryz.results48, go_sem, hcx]
  · have hn := HN.out
    have e : ((((w.alloc
                  (Obj.cells #[Value.int IntKind.i64 ev, Value.int IntKind.i64 at_, Value.int IntKind.i64 fr, Value.int IntKind.i64 to_, Value.slice a len cap]
                    66)).alloc
              (Obj.cells
                #[Value.int IntKind.i64 0, Value.int IntKind.i64 0, Value.int IntKind.i64 0, Value.int IntKind.i64 0,
                  Value.slice none 0 0]
                73)).alloc
          (Obj.cells #[Value.int IntKind.i64 ev, Value.int IntKind.i64 at_, Value.int IntKind.i64 fr, Value.int IntKind.i64 to_, Value.slice none 0 0]
            73))).heap.size = w.heap.size + 1 + 1 + 1 := by simp
    rw [e] at hn
    have hlt := (World.ownsRow.lt hn _ rfl).2
    refine ⟨⟨_, rfl, by omega, by simpa using hlt, ?_⟩, ?_⟩
    · exact own_else (own_else (own_else (own_else (own_else (own_else (own_base hn (by omega)) (by simp) _) (by simp) _) (by simp) _) (by simp) _) (by simp) _) (by simp) _
    · have h3 : Below w.heap.size w w1 := bcall ((((Below.refl _ _).alloc (Nat.le_refl _) _).alloc (by simp) _).alloc (by simp; omega) _) (by simp; omega) hb
      exact (((((h3.setCell (by simp; omega) _).setCell (by simp) _).setCell (by simp) _).setCell (by simp) _).setCell (by simp) _).setCell (by simp) _

/-- What was copied, up to k: the numbers of rule i lie in block f i. -/
def RulsUp (wr : World) (N k : Nat) (cur : Array Value) (rs : List Rul) (f : Nat → Nat) : Prop :=
  (∀ i (h : i < rs.length), i < k → N < f i ∧ f i < wr.heap.size ∧ cur[i * 5]? = some (.int .i64 rs[i].ev) ∧ cur[i * 5 + 1]? = some (.int .i64 rs[i].at_) ∧ cur[i * 5 + 2]? = some (.int .i64 rs[i].fr) ∧ cur[i * 5 + 3]? = some (.int .i64 rs[i].to_) ∧ cur[i * 5 + 4]? = some (.slice (some ⟨f i, 0, none⟩) rs[i].but.length rs[i].but.length) ∧ wr.ownsRow N 3 1 (.slice (some ⟨f i, 0, none⟩) rs[i].but.length rs[i].but.length) rs[i].but.length (rs[i].but.map (Value.int .i64))) ∧
  ∀ i j, i < j → j < k → f i < f j

theorem flatR_len : ∀ (es : List Rul) (vs : List Value), vs.length = es.length → (flatR es vs).length = es.length * 5 := by
  intro es
  induction es with
  | nil => intro vs _; rfl
  | cons e t ih =>
    intro vs h
    cases vs with
    | nil => simp at h
    | cons v vs =>
      have hf : flatR (e :: t) (v :: vs) = cellsR e v ++ flatR t vs := rfl
      rw [hf, List.length_append, ih vs (by simpa using h)]
      simp [cellsR]; omega

set_option maxHeartbeats 800000 in
theorem toCalRuleSG (a : Option Addr) (len cap : Nat) (rs : List Rul) (w : World) (hr : IsRuls w a len cap rs) (hs : len ≤ 1048576) (hsm : ∀ i (h : i < rs.length), rulSmall rs[i]) :
    Calls Tryz.prog 25 #[.slice a len cap] w fun e w' => e = .returned (.slice (some ⟨w.heap.size, 0, none⟩) len len) ∧ (∃ vs, GathV w' w.heap.size (.slice (some ⟨w.heap.size, 0, none⟩) len len) vs rs) ∧ Below w.heap.size w w' := by
  obtain ⟨hz, hm⟩ := IsRecs.len hr
  have HRW : Hid (IsRuls w a len cap rs) := hr
  clear hr
  have hmk := run_make_recs (P := Tryz.prog) 28 73 _ 5 56 Tryz.underlying28 info_CalRule .i64 .i64 len (by omega) (by omega)
  go_enter Tryz.func25, Tryz.ntmps25
  go_wp2
  go_loopw [4] (fun i wr => ∃ k : Nat, k ≤ len ∧ i = .int .i64 k ∧ ∃ cur f, Holds wr w.heap.size 73 cur ∧ cur.size = len * 5 ∧ RulsUp wr w.heap.size k cur rs f ∧ Below w.heap.size w wr) (fun i _ => len - (intOf i).toNat)
  case atStart => exact ⟨0, Nat.zero_le _, rfl, _, fun _ => 0, heap_alloc_new _ _, size_madeCells _ _, ⟨fun i _ h => by omega, fun i j _ h => by omega⟩, (Below.refl _ _).alloc (Nat.le_refl _) _⟩
  case round =>
    obtain ⟨k, hk, rfl, cur, f, hg, hcs, hc, hb⟩ := hrel
    have HC : Hid (RulsUp wr w.heap.size k cur rs f) := hc
    clear hc
    by_cases hlt : k < len
    · obtain ⟨b, off, rfl, h1, hbl, a', l', c', c0, c1, c2, c3, c4, hrow, _⟩ := IsRuls.at (IsRuls.below HRW.out hb) (i := k) (by omega)
      have hl := hrow.len
      have HT : Hid _ := toCalRuleG rs[k].ev rs[k].at_ rs[k].fr rs[k].to_ a' l' c' rs[k].but wr hrow (by have := hsm k (by omega); unfold rulSmall at this; omega)
      go_wp2_with fail
      refine Calls.mono HT.out ?_
      rintro e w1 ⟨⟨b2, rfl, hb2, hb2', hrow2⟩, hw1⟩
      have HROW : Hid _ := hrow2
      clear hrow2
      have HG1 := hg.below hw1
      have hf0 := HG1.frozen (k * 5)
      have hf1 := HG1.frozen (k * 5 + 1)
      have hf2 := HG1.frozen (k * 5 + 2)
      have hf3 := HG1.frozen (k * 5 + 3)
      have hf4 := HG1.frozen (k * 5 + 4)
      have hd0 : w1.cell? ⟨w.heap.size, k * 5, none⟩ = some cur[k * 5] := by rw [HG1.cell]; simp
      have hd1 : w1.cell? ⟨w.heap.size, k * 5 + 1, none⟩ = some cur[k * 5 + 1] := by rw [HG1.cell]; simp
      have hd2 : w1.cell? ⟨w.heap.size, k * 5 + 2, none⟩ = some cur[k * 5 + 2] := by rw [HG1.cell]; simp
      have hd3 : w1.cell? ⟨w.heap.size, k * 5 + 3, none⟩ = some cur[k * 5 + 3] := by rw [HG1.cell]; simp
      have hd4 : w1.cell? ⟨w.heap.size, k * 5 + 4, none⟩ = some cur[k * 5 + 4] := by rw [HG1.cell]; simp
      have H5 : Hid _ := HG1.set5 (k * 5) (.int .i64 rs[k].ev) (.int .i64 rs[k].at_) (.int .i64 rs[k].fr) (.int .i64 rs[k].to_) (.slice (some ⟨b2, 0, none⟩) l' l') (by omega)
      go_wp2_with fail
      go_roundw
      case rel =>
        obtain ⟨cur', q, qs, qo, q0, q1, q2, q3, q4⟩ := H5.out
        have hgl := hg.lt
        refine ⟨k + 1, by omega, by go_num, cur', fun i => if i = k then b2 else f i, q, by omega, ⟨fun i hi hik => ?_, fun i j hij hj => ?_⟩, below_set5 (bcall hb hb.size hw1) (Nat.le_refl _) _ _ _ _ _ _⟩
        · by_cases e : i = k
          · subst e
            rw [hl.1]
            simp only [if_true]
            exact ⟨by omega, by simpa using hb2', q0, q1, q2, q3, q4, own_else (own_else (own_else (own_else (own_else (own_base HROW.out (by omega)) (by simp only; omega) _) (by simp only; omega) _) (by simp only; omega) _) (by simp only; omega) _) (by simp only; omega) _⟩
          · obtain ⟨g1, g2, d0, d1, d2, d3, d4, hrow3⟩ := HC.out.1 i hi (by omega)
            simp only [if_neg e]
            refine ⟨g1, by have := hw1.size; simp; omega, ?_, ?_, ?_, ?_, ?_, ?_⟩
            · rw [qo _ (by omega)]; exact d0
            · rw [qo _ (by omega)]; exact d1
            · rw [qo _ (by omega)]; exact d2
            · rw [qo _ (by omega)]; exact d3
            · rw [qo _ (by omega)]; exact d4
            · exact own_else (own_else (own_else (own_else (own_else (own_below hrow3 hw1) (by simp only; omega) _) (by simp only; omega) _) (by simp only; omega) _) (by simp only; omega) _) (by simp only; omega) _
        · by_cases e : j = k
          · subst e
            simp only [if_true, if_neg (show ¬ i = j by omega)]
            have := (HC.out.1 i (by omega) hij).2.1
            omega
          · simp only [if_neg e, if_neg (show ¬ i = k by omega)]
            exact HC.out.2 i j hij (by omega)
      case measure => simp [intOf]; omega
    · have hkl : k = len := by omega
      subst hkl
      go_wp2
      go_ret
      refine ⟨rfl, ⟨List.ofFn fun i : Fin rs.length => .slice (some ⟨f i, 0, none⟩) rs[i].but.length rs[i].but.length, by simp, ?_, fun i hi => ?_, fun i j hi hj hij b c => ?_⟩, hb⟩
      · refine ⟨flatR_len _ _ (by simp), .inr ⟨w.heap.size, k, cur, by rw [hz], Nat.le_refl _, hg, by omega, by unfold maxLen; omega, by omega, ?_⟩⟩
        rw [List.take_of_length_le (by simp [hcs]; omega)]
        refine List.ext_getElem? fun n => ?_
        by_cases hn : n < rs.length * 5
        · obtain ⟨i, j, hj, rfl⟩ : ∃ i j, j < 5 ∧ n = i * 5 + j := ⟨n / 5, n % 5, Nat.mod_lt _ (by omega), by omega⟩
          have hi : i < rs.length := by omega
          rw [flatR_at _ _ i j (by simp) hi hj, List.getElem_ofFn, Array.getElem?_toList]
          obtain ⟨_, _, d0, d1, d2, d3, d4, _⟩ := HC.out.1 i hi (by omega)
          rcases (by omega : j = 0 ∨ j = 1 ∨ j = 2 ∨ j = 3 ∨ j = 4) with rfl | rfl | rfl | rfl | rfl <;> first | exact d0 | exact d1 | exact d2 | exact d3 | exact d4
        · rw [List.getElem?_eq_none (by simp [hcs]; omega), List.getElem?_eq_none (by rw [flatR_len _ _ (by simp)]; omega)]
      · rw [List.getElem_ofFn]
        obtain ⟨_, _, _, _, _, _, _, _, _, _, _, _, _, hrow, x1, x2, x3, x4⟩ := IsRuls.at HRW.out hi
        exact ⟨(HC.out.1 i hi (by omega)).2.2.2.2.2.2.2, x1, x2, x3, x4, hrow.wf⟩
      · simp only [List.getElem_ofFn, Value.ownBlock]
        intro e1 e2
        simp only [Option.map_some, Option.some.injEq] at e1 e2
        have := HC.out.2 i j hij (by simp at hj; omega)
        omega
end Cal
end Go.Proofs.YtghocdiddolinaaGreatDoor
