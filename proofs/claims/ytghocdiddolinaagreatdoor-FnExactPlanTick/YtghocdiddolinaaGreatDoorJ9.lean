/- A region that draws its order, by a condition that each operation keeps, whatever came ahead of it: no order is branched over. -/
import Derived.Test.YtghocdiddolinaaGreatDoorJ7
import Derived.Test.YtghocdiddolinaaGreatDoorProg
import Derived.OrdersHeld
import Derived.WalkKit
namespace Go.Proofs.YtghocdiddolinaaGreatDoor
set_option linter.unusedVariables false
set_option linter.unusedSimpArgs false
open Go.RowKit Go
namespace Pl

theorem neBox : (31 : TypeId) ≠ 73 ∧ (31 : TypeId) ≠ 3 ∧ (31 : TypeId) ≠ 61 := by decide
theorem sevenOf {w : World} {N : Nat} {t : TypeId} {v0 v1 v2 v3 v4 v5 v6 : Value} (h : Holds w N t #[v0, v1, v2, v3, v4, v5, v6]) :
    w.cell? ⟨N, 0, none⟩ = some v0 ∧ w.cell? ⟨N, 1, none⟩ = some v1 ∧ w.cell? ⟨N, 2, none⟩ = some v2 ∧ w.cell? ⟨N, 3, none⟩ = some v3 ∧ w.cell? ⟨N, 4, none⟩ = some v4 ∧ w.cell? ⟨N, 5, none⟩ = some v5 ∧ w.cell? ⟨N, 6, none⟩ = some v6 ∧ ∀ i, w.frozen? ⟨N, i, none⟩ = false :=
  ⟨by rw [h.cell]; rfl, by rw [h.cell]; rfl, by rw [h.cell]; rfl, by rw [h.cell]; rfl, by rw [h.cell]; rfl, by rw [h.cell]; rfl, by rw [h.cell]; rfl, fun i => h.frozen i⟩
/-- A box, one cell of it stored. -/
theorem box_set {w : World} {N : Nat} {cur cur' : Array Value} (h : Holds w N 31 cur) (i : Nat) (v : Value) (e : cur.setIfInBounds i v = cur') : Holds (w.setCell ⟨N, i, none⟩ v) N 31 cur' ∧ SameP w (w.setCell ⟨N, i, none⟩ v) :=
  ⟨e ▸ h.set i v, SameP.setBox h neBox i v⟩
theorem holds_else {w : World} {N M : Nat} {t : TypeId} {cur : Array Value} (h : Holds w N t cur) (hne : M ≠ N) (i : Nat) (v : Value) : Holds (w.setCell ⟨M, i, none⟩ v) N t cur := by
  unfold Holds at h ⊢
  rw [Below.heap_setCell w ⟨M, i, none⟩ v N (fun e => hne e.symm)]; exact h

theorem gathV_base {w : World} {base base' : Nat} {v : Value} {vs : List Value} {es : List Rul} (h : Cal.GathV w base v vs es) (hb : base' ≤ base) : Cal.GathV w base' v vs es := by
  obtain ⟨hv, h1, h2, h3⟩ := h
  exact ⟨hv, Cal.own_base h1 hb, fun i hi => ⟨Cal.own_base (h2 i hi).1 hb, (h2 i hi).2⟩, h3⟩
theorem GathV_same {w w' : World} {base : Nat} {v : Value} {vs : List Value} {es : List Rul} (h : Cal.GathV w base v vs es) (hs : Cal.SameT w w') : Cal.GathV w' base v vs es := Cal.GathV.same h hs
/-- Three boxes, told as they lie. -/
def Boxes (W : World) (N : Nat) (tA : TypeId) (A B C : Array Value) : Prop := Holds W N tA A ∧ Holds W (N + 1) 31 B ∧ Holds W (N + 1 + 1) 31 C
theorem Boxes.below {W W' : World} {N : Nat} {tA : TypeId} {A B C : Array Value} (h : Boxes W N tA A B C) (hb : Below W.heap.size W W') : Boxes W' N tA A B C := ⟨h.1.below hb, h.2.1.below hb, h.2.2.below hb⟩
theorem Boxes.set {W : World} {N : Nat} {tA : TypeId} {A B C C' : Array Value} (h : Boxes W N tA A B C) (i : Nat) (v : Value) (e : C.setIfInBounds i v = C') : Boxes (W.setCell ⟨N + 1 + 1, i, none⟩ v) N tA A B C' ∧ SameP W (W.setCell ⟨N + 1 + 1, i, none⟩ v) :=
  ⟨⟨holds_else h.1 (by omega) i v, holds_else h.2.1 (by omega) i v, (box_set h.2.2 i v e).1⟩, (box_set h.2.2 i v e).2⟩

theorem Boxes.setB {W : World} {N : Nat} {tA : TypeId} {A B C B' : Array Value} (h : Boxes W N tA A B C) (i : Nat) (v : Value) (e : B.setIfInBounds i v = B') : Boxes (W.setCell ⟨N + 1, i, none⟩ v) N tA A B' C ∧ SameP W (W.setCell ⟨N + 1, i, none⟩ v) :=
  ⟨⟨holds_else h.1 (by omega) i v, (box_set h.2.1 i v e).1, holds_else h.2.2 (by omega) i v⟩, (box_set h.2.1 i v e).2⟩
theorem Boxes.fill {W : World} {N : Nat} {tA : TypeId} {A B C : Array Value} (h : Boxes W N tA A B C) (v6' v0 v1 v2 v3 v4 v5 v6 : Value) : SameP W ((((((((W.setCell ⟨N + 1 + 1, 6, none⟩ v6').setCell ⟨N + 1, 0, none⟩ v0).setCell ⟨N + 1, 1, none⟩ v1).setCell ⟨N + 1, 2, none⟩ v2).setCell ⟨N + 1, 3, none⟩ v3).setCell ⟨N + 1, 4, none⟩ v4).setCell ⟨N + 1, 5, none⟩ v5).setCell ⟨N + 1, 6, none⟩ v6) := by
  obtain ⟨y, z⟩ := Boxes.set h 6 v6' rfl
  obtain ⟨y0, z0⟩ := Boxes.setB y 0 v0 rfl
  obtain ⟨y1, z1⟩ := Boxes.setB y0 1 v1 rfl
  obtain ⟨y2, z2⟩ := Boxes.setB y1 2 v2 rfl
  obtain ⟨y3, z3⟩ := Boxes.setB y2 3 v3 rfl
  obtain ⟨y4, z4⟩ := Boxes.setB y3 4 v4 rfl
  obtain ⟨y5, z5⟩ := Boxes.setB y4 5 v5 rfl
  obtain ⟨_, z6⟩ := Boxes.setB y5 6 v6 rfl
  exact ((((((z.trans z0).trans z1).trans z2).trans z3).trans z4).trans z5).trans z6
theorem boxes_new (w : World) (tA : TypeId) (A B C : Array Value) : Boxes (((w.alloc (.cells A tA)).alloc (.cells B 31)).alloc (.cells C 31)) w.heap.size tA A B C := by
  have b1 : ∀ (W : World) (o : Obj), Below W.heap.size W (W.alloc o) := fun W o => (Below.refl _ _).alloc (Nat.le_refl _) _
  refine ⟨((show Holds (w.alloc (.cells A tA)) w.heap.size tA A from heap_alloc_new _ _).below (b1 _ _)).below (b1 _ _), ?_, ?_⟩
  · have h : Holds ((w.alloc (.cells A tA)).alloc (.cells B 31)) (w.alloc (.cells A tA)).heap.size 31 B := heap_alloc_new _ _
    rw [World.size_alloc] at h
    exact h.below (b1 _ _)
  · have h : Holds (((w.alloc (.cells A tA)).alloc (.cells B 31)).alloc (.cells C 31)) ((w.alloc (.cells A tA)).alloc (.cells B 31)).heap.size 31 C := heap_alloc_new _ _
    rw [World.size_alloc, World.size_alloc] at h
    exact h

set_option maxHeartbeats 1600000 in
theorem toPlanG (ra : Option Addr) (rl rc : Nat) (ga : Option Addr) (gl gc : Nat) (wa : Option Addr) (wl wc : Nat) (ta : Option Addr) (tl tc : Nat) (p : Pla) (w : World) (hp : IsPla w ra rl rc ga gl gc wa wl wc ta tl tc p) (hs : plaSmall p) :
    Calls Tryz.prog 7 #[.agg #[.slice ra rl rc, .int .i64 p.pol, .int .i64 p.win, .int .i64 p.last, .slice ga gl gc, .slice wa wl wc, .slice ta tl tc]] w fun e w' => (∃ b0 b1 b2 b3, e = .returned (.agg #[.slice (some ⟨b0, 0, none⟩) rl rl, .int .i64 p.pol, .int .i64 p.win, .int .i64 p.last, .slice (some ⟨b1, 0, none⟩) gl gl, .slice (some ⟨b2, 0, none⟩) wl wl, .slice (some ⟨b3, 0, none⟩) tl tl]) ∧ GathP w' w.heap.size (.slice (some ⟨b0, 0, none⟩) rl rl) (.slice (some ⟨b1, 0, none⟩) gl gl) (.slice (some ⟨b2, 0, none⟩) wl wl) (.slice (some ⟨b3, 0, none⟩) tl tl) p) ∧ Below w.heap.size w w' := by
  have hr := (IsRecs.len hp.1).1
  have hg := (hp.2.1.len).1
  have hw := (hp.2.2.1.len).1
  have ht := (IsRecs.len hp.2.2.2).1
  obtain ⟨s1, s2, s3, s4, s5⟩ := hs
  have HP : Hid _ := hp
  clear hp
  have T1 : Hid (∀ w', Below w.heap.size w w' → Calls Tryz.prog 25 #[.slice ra rl rc] w' fun e w'' => e = .returned (.slice (some ⟨w'.heap.size, 0, none⟩) rl rl) ∧ (∃ vs, Cal.GathV w'' w'.heap.size (.slice (some ⟨w'.heap.size, 0, none⟩) rl rl) vs p.rs) ∧ Below w'.heap.size w' w'') := fun w' hb => Cal.toCalRuleSG _ _ _ p.rs w' (IsPla.below HP.out hb).1 (by omega) s2
  have T2 : Hid (∀ w', Below w.heap.size w w' → Calls Tryz.prog 26 #[.slice ga gl gc] w' fun e w'' => e = .returned (.slice (some ⟨w'.heap.size, 0, none⟩) gl gl) ∧ w''.ownsRow w'.heap.size 3 1 (.slice (some ⟨w'.heap.size, 0, none⟩) gl gl) gl (p.goes.map (Value.int .i64)) ∧ Below w'.heap.size w' w'') := fun w' hb => Cal.toIntG _ _ _ p.goes w' (IsPla.below HP.out hb).2.1 (by omega)
  have T3 : Hid (∀ w', Below w.heap.size w w' → Calls Tryz.prog 26 #[.slice wa wl wc] w' fun e w'' => e = .returned (.slice (some ⟨w'.heap.size, 0, none⟩) wl wl) ∧ w''.ownsRow w'.heap.size 3 1 (.slice (some ⟨w'.heap.size, 0, none⟩) wl wl) wl (p.waits.map (Value.int .i64)) ∧ Below w'.heap.size w' w'') := fun w' hb => Cal.toIntG _ _ _ p.waits w' (IsPla.below HP.out hb).2.2.1 (by omega)
  have T4 : Hid (∀ w', Below w.heap.size w w' → Calls Tryz.prog 27 #[.slice ta tl tc] w' fun e w'' => e = .returned (.slice (some ⟨w'.heap.size, 0, none⟩) tl tl) ∧ w''.ownsRow w'.heap.size 61 2 (.slice (some ⟨w'.heap.size, 0, none⟩) tl tl) tl (flatT p.told) ∧ Below w'.heap.size w' w'') := fun w' hb => toPlanToldSG _ _ _ p.told w' (IsPla.below HP.out hb).2.2.2 (by omega)
  clear s2
  go_enter Tryz.func7, Tryz.ntmps7
  go_wp2_with fail
  refine (T1.out _ (by first | exact (((Below.refl _ _).alloc (Nat.le_refl _) _).alloc (by simp) _).alloc (by simp; omega) _)).mono ?_
  rintro e w1 ⟨rfl, ⟨vs, hn1⟩, hb1⟩
  have hX1 := (boxes_new w 26 #[.slice ra rl rc, .int .i64 p.pol, .int .i64 p.win, .int .i64 p.last, .slice ga gl gc, .slice wa wl wc, .slice ta tl tc] #[.slice none 0 0, .int .i64 0, .int .i64 0, .int .i64 0, .slice none 0 0, .slice none 0 0, .slice none 0 0] #[.slice none 0 0, .int .i64 0, .int .i64 0, .int .i64 0, .slice none 0 0, .slice none 0 0, .slice none 0 0]).below hb1
  obtain ⟨a0, a1, a2, a3, a4, a5, a6, af⟩ := sevenOf hX1.1
  obtain ⟨b0, b1, b2, b3, b4, b5, b6, bf⟩ := sevenOf hX1.2.1
  obtain ⟨c0, c1, c2, c3, c4, c5, c6, cf⟩ := sevenOf hX1.2.2
  have hB1 : Below w.heap.size w w1 := bcall ((((Below.refl _ _).alloc (Nat.le_refl _) _).alloc (by simp) _).alloc (by simp; omega) _) (by simp; omega) hb1
  have HLT : Hid (∀ i (hi : i < vs.length), ∀ b, vs[i].ownBlock = some b → b < w1.heap.size) := fun i hi b hb => (World.ownsRow.lt (hn1.2.2.1 i (by have := hn1.1; omega)).1 b hb).2
  have hn1' : Cal.GathV w1 (w.heap.size + 1 + 1 + 1) (.slice (some ⟨w.heap.size + 1 + 1 + 1, 0, none⟩) rl rl) vs p.rs := by simpa using hn1
  have HN1 : Hid _ := hn1'
  have HX1 : Hid _ := hX1
  have HB1 : Hid _ := hB1
  have hz1 : w.heap.size + 1 + 1 + 1 ≤ w1.heap.size := by have := hb1.size; simpa using this
  clear hn1 hn1' hX1 hB1 hb1
  go_wp2_with fail
  have hbe : ∀ (i : Nat) (v : Value) (W : World), Below w.heap.size w W → Below w.heap.size w (W.setCell ⟨w.heap.size + 1 + 1, i, none⟩ v) := fun i v W h => h.setCell (p := ⟨w.heap.size + 1 + 1, i, none⟩) (by simp only; omega) v
  obtain ⟨y1, z1⟩ := Boxes.set HX1.out 0 (.slice (some ⟨w.heap.size + 1 + 1 + 1, 0, none⟩) rl rl) (by simp; rfl)
  obtain ⟨y2, z2⟩ := Boxes.set y1 1 (.int .i64 p.pol) (by simp; rfl)
  obtain ⟨y3, z3⟩ := Boxes.set y2 2 (.int .i64 p.win) (by simp; rfl)
  obtain ⟨y4, z4⟩ := Boxes.set y3 3 (.int .i64 p.last) (by simp; rfl)
  have zz := ((z1.trans z2).trans z3).trans z4
  have yb := hbe 3 (.int .i64 p.last) _ (hbe 2 (.int .i64 p.win) _ (hbe 1 (.int .i64 p.pol) _ (hbe 0 (.slice (some ⟨w.heap.size + 1 + 1 + 1, 0, none⟩) rl rl) _ HB1.out)))
  refine (T2.out _ yb).mono ?_
  rintro e w2 ⟨rfl, hn2, hb2⟩
  have hX2 := y4.below hb2
  have HN1b : Hid (Cal.GathV w2 (w.heap.size + 1 + 1 + 1) (.slice (some ⟨w.heap.size + 1 + 1 + 1, 0, none⟩) rl rl) vs p.rs) := GathV_same (GathV_same HN1.out zz.toT) (SameP.below hb2).toT
  have HB2 : Hid _ := bcall yb (by have := HB1.out.size; simpa using this) hb2
  have hz2 : w1.heap.size + 1 ≤ w2.heap.size := by have := (World.ownsRow.lt hn2 _ rfl).2; simp at this; omega
  have hn2' : w2.ownsRow w1.heap.size 3 1 (.slice (some ⟨w1.heap.size, 0, none⟩) gl gl) gl (p.goes.map (Value.int .i64)) := by simpa using hn2
  have HN2 : Hid _ := hn2'
  have HX2 : Hid _ := hX2
  clear y1 y2 y3 y4 z1 z2 z3 z4 zz yb hb2 hn2 hn2' a0 a1 a2 a3 a4 a5 a6 af b0 b1 b2 b3 b4 b5 b6 bf c0 c1 c2 c3 c4 c5 c6 cf HX1 hX2
  obtain ⟨a0, a1, a2, a3, a4, a5, a6, af⟩ := sevenOf HX2.out.1
  obtain ⟨b0, b1, b2, b3, b4, b5, b6, bf⟩ := sevenOf HX2.out.2.1
  obtain ⟨c0, c1, c2, c3, c4, c5, c6, cf⟩ := sevenOf HX2.out.2.2
  go_wp2_with fail
  obtain ⟨y1, z1⟩ := Boxes.set HX2.out 4 (.slice (some ⟨w1.heap.size, 0, none⟩) gl gl) (by simp; rfl)
  have yb := hbe 4 (.slice (some ⟨w1.heap.size, 0, none⟩) gl gl) _ HB2.out
  refine (T3.out _ yb).mono ?_
  rintro e w3 ⟨rfl, hn3, hb3⟩
  have hX3 := y1.below hb3
  have zz := z1.trans (SameP.below hb3)
  have HN1c : Hid (Cal.GathV w3 (w.heap.size + 1 + 1 + 1) (.slice (some ⟨w.heap.size + 1 + 1 + 1, 0, none⟩) rl rl) vs p.rs) := GathV_same HN1b.out zz.toT
  have HN2c : Hid (w3.ownsRow w1.heap.size 3 1 (.slice (some ⟨w1.heap.size, 0, none⟩) gl gl) gl (p.goes.map (Value.int .i64))) := own_same HN2.out zz (.inr (.inl rfl))
  have HB3 : Hid _ := bcall yb (by have := HB2.out.size; simpa using this) hb3
  have hz3 : w2.heap.size + 1 ≤ w3.heap.size := by have := (World.ownsRow.lt hn3 _ rfl).2; simp at this; omega
  have hn3' : w3.ownsRow w2.heap.size 3 1 (.slice (some ⟨w2.heap.size, 0, none⟩) wl wl) wl (p.waits.map (Value.int .i64)) := by simpa using hn3
  have HN3 : Hid _ := hn3'
  have HX3 : Hid _ := hX3
  clear y1 z1 zz yb hb3 hn3 hn3' a0 a1 a2 a3 a4 a5 a6 af b0 b1 b2 b3 b4 b5 b6 bf c0 c1 c2 c3 c4 c5 c6 cf HX2 hX3 HN1 HN1b HN2
  obtain ⟨a0, a1, a2, a3, a4, a5, a6, af⟩ := sevenOf HX3.out.1
  obtain ⟨b0, b1, b2, b3, b4, b5, b6, bf⟩ := sevenOf HX3.out.2.1
  obtain ⟨c0, c1, c2, c3, c4, c5, c6, cf⟩ := sevenOf HX3.out.2.2
  go_wp2_with fail
  obtain ⟨y1, z1⟩ := Boxes.set HX3.out 5 (.slice (some ⟨w2.heap.size, 0, none⟩) wl wl) (by simp; rfl)
  have yb := hbe 5 (.slice (some ⟨w2.heap.size, 0, none⟩) wl wl) _ HB3.out
  refine (T4.out _ yb).mono ?_
  rintro e w4 ⟨rfl, hn4, hb4⟩
  have hX4 := y1.below hb4
  have zz := z1.trans (SameP.below hb4)
  have HN1d : Hid (Cal.GathV w4 (w.heap.size + 1 + 1 + 1) (.slice (some ⟨w.heap.size + 1 + 1 + 1, 0, none⟩) rl rl) vs p.rs) := GathV_same HN1c.out zz.toT
  have HN2d : Hid (w4.ownsRow w1.heap.size 3 1 (.slice (some ⟨w1.heap.size, 0, none⟩) gl gl) gl (p.goes.map (Value.int .i64))) := own_same HN2c.out zz (.inr (.inl rfl))
  have HN3d : Hid (w4.ownsRow w2.heap.size 3 1 (.slice (some ⟨w2.heap.size, 0, none⟩) wl wl) wl (p.waits.map (Value.int .i64))) := own_same HN3.out zz (.inr (.inl rfl))
  have HB4 : Hid _ := bcall yb (by have := HB3.out.size; simpa using this) hb4
  have hn4' : w4.ownsRow w3.heap.size 61 2 (.slice (some ⟨w3.heap.size, 0, none⟩) tl tl) tl (flatT p.told) := by simpa using hn4
  have HN4 : Hid _ := hn4'
  have HX4 : Hid _ := hX4
  clear y1 z1 zz yb hb4 hn4 hn4' a0 a1 a2 a3 a4 a5 a6 af b0 b1 b2 b3 b4 b5 b6 bf c0 c1 c2 c3 c4 c5 c6 cf HX3 hX4 HN1c HN2c HN3
  obtain ⟨b0, b1, b2, b3, b4, b5, b6, bf⟩ := sevenOf HX4.out.2.1
  obtain ⟨c0, c1, c2, c3, c4, c5, c6, cf⟩ := sevenOf HX4.out.2.2
  go_wp2_with fail
  refine bodyPost_ret (v := .agg #[.slice (some ⟨w.heap.size + 1 + 1 + 1, 0, none⟩) rl rl, .int .i64 p.pol, .int .i64 p.win, .int .i64 p.last, .slice (some ⟨w1.heap.size, 0, none⟩) gl gl, .slice (some ⟨w2.heap.size, 0, none⟩) wl wl, .slice (some ⟨w3.heap.size, 0, none⟩) tl tl]) ?_ rfl ?_
  · simp [results, Tryz.results7, go_sem, b0, b1, b2, b3, b4, b5, b6]
  · refine ⟨⟨_, _, _, _, rfl, ?_⟩, ?_⟩
    · have zz := Boxes.fill HX4.out (.slice (some ⟨w3.heap.size, 0, none⟩) tl tl) (.slice (some ⟨w.heap.size + 1 + 1 + 1, 0, none⟩) rl rl) (.int .i64 p.pol) (.int .i64 p.win) (.int .i64 p.last) (.slice (some ⟨w1.heap.size, 0, none⟩) gl gl) (.slice (some ⟨w2.heap.size, 0, none⟩) wl wl) (.slice (some ⟨w3.heap.size, 0, none⟩) tl tl)
      refine GathP.same ?_ zz
      refine ⟨vs, gathV_base HN1d.out (by omega), ⟨?_, HP.out.2.1.wf⟩, ⟨?_, HP.out.2.2.1.wf⟩, ⟨?_, fun i hi => (IsTlds.at HP.out.2.2.2 hi).choose_spec.choose_spec.2.2.2.2.2⟩, fun b hb => ⟨fun hc => ?_, fun i hi hc => ?_⟩, fun b hb i hi hc => ?_⟩
      · rw [hg]; exact Cal.own_base HN2d.out (by omega)
      · rw [hw]; exact Cal.own_base HN3d.out (by omega)
      · rw [ht]; exact Cal.own_base HN4.out (by omega)
      · simp [Value.ownBlock] at hb hc; omega
      · have := HLT.out i hi b hc; simp [Value.ownBlock] at hb; omega
      · have := HLT.out i hi b hc; simp [Value.ownBlock] at hb; omega
    · have hq := HB4.out
      exact (((((((hq.setCell (by simp only; omega) _).setCell (by simp only; omega) _).setCell (by simp only; omega) _).setCell (by simp only; omega) _).setCell (by simp only; omega) _).setCell (by simp only; omega) _).setCell (by simp only; omega) _).setCell (by simp only; omega) _
end Pl
end Go.Proofs.YtghocdiddolinaaGreatDoor

namespace Go.Proofs.YtghocdiddolinaaGreatDoor
set_option linter.unusedVariables false
set_option linter.unusedSimpArgs false
open Go.RowKit Go
namespace RI

variable {P : Program} {ops : Array Oper} {Q : Exit → Act → World → Prop} {md : Region.Mode}

/-- Every operation waits for earlier ones alone. -/
def backB (ops : Array Oper) : Bool := (List.range ops.size).all fun i => ((ops[i]?).map fun o => o.after.all fun e => decide (e.on < i)).getD true
theorem back_spec (h : backB ops = true) {i : Nat} {o : Oper} (hi : ops[i]? = some o) : ∀ e ∈ o.after, e.on < i := by
  intro e he
  have hlt : i < ops.size := (Array.getElem?_eq_some_iff.1 hi).1
  have := List.all_eq_true.1 h i (List.mem_range.2 hlt)
  simp only [hi, Option.map_some, Option.getD_some] at this
  simpa using Array.all_eq_true_iff_forall_mem.1 this e he

theorem mem_ready' {listed : Array Bool} {i : Nat} (h : i ∈ Region.ready md ops listed) : ∃ o, ops[i]? = some o ∧ listed.getD i true = false ∧ ∀ e ∈ o.after, Region.binds md e = true → listed.getD e.on false = true := by
  obtain ⟨h1, o, h2, h3⟩ := mem_ready.1 h
  exact ⟨o, h2, h1, h3⟩
theorem ready_of {listed : Array Bool} {i : Nat} {o : Oper} (hi : ops[i]? = some o) (h1 : listed.getD i true = false) (h3 : ∀ e ∈ o.after, Region.binds md e = true → listed.getD e.on false = true) : i ∈ Region.ready md ops listed :=
  mem_ready.2 ⟨h1, o, hi, h3⟩

/-- Nothing may come up just when all has come up. -/
theorem all_listed (hb : backB ops = true) {listed : Array Bool} (hs : listed.size = ops.size) (h : Region.ready md ops listed = []) : ∀ i, i < ops.size → listed.getD i true = true := by
  intro i
  induction i using Nat.strongRecOn with
  | _ i ih =>
    intro hi
    by_cases hl : listed.getD i true = true
    · exact hl
    · have hl' : listed.getD i true = false := by simpa using hl
      have hm : i ∈ Region.ready md ops listed := ready_of (o := ops[i]) (Array.getElem?_eq_getElem hi) hl' fun e he _ => by
        have hlt := back_spec hb (Array.getElem?_eq_getElem hi) e he
        have := ih e.on hlt (by omega)
        have hsz : e.on < listed.size := by omega
        simpa [Array.getD, hsz] using this
      rw [h] at hm
      cases hm

/-- How many have not come up. -/
def left (listed : Array Bool) : Nat := listed.toList.countP fun b => !b
theorem left_set {listed : Array Bool} {i : Nat} (h : listed.getD i true = false) : left (listed.setIfInBounds i true) + 1 = left listed := by
  have hi : i < listed.size := by
    by_cases h' : i < listed.size
    · exact h'
    · simp [Array.getD, h'] at h
  have hv : listed.toList[i]'(by simpa using hi) = false := by simpa [Array.getD, hi] using h
  unfold left
  rw [Array.toList_setIfInBounds]
  have key : ∀ (l : List Bool) (i : Nat) (hi : i < l.length), l[i] = false → (l.set i true).countP (fun b => !b) + 1 = l.countP (fun b => !b) := by
    intro l
    induction l with
    | nil => intro i hi; simp at hi
    | cons x t ih =>
      intro i hi hx
      cases i with
      | zero =>
        simp only [List.getElem_cons_zero] at hx
        subst hx
        simp
      | succ i =>
        simp only [List.getElem_cons_succ] at hx
        have := ih i (by simpa using hi) hx
        simp only [List.set_cons_succ, List.countP_cons]
        omega
  exact key _ i (by simpa using hi) hv

/-- THE RULE: Inv is kept by each operation that may come up; when all have come up it gives Q. -/
theorem wpAny_inv (hb : backB ops = true) (Inv : Array Bool → Act → World → Prop)
    (hstep : ∀ (i : Nat) (o : Oper) (listed : Array Bool) (a : Act) (w : World), ops[i]? = some o → listed.size = ops.size → listed.getD i true = false → (∀ e ∈ o.after, Region.binds md e = true → listed.getD e.on false = true) → Inv listed a w →
      wpOp P ops Q i (fun a' w' => Inv (listed.setIfInBounds i true) a' w') a w)
    (hdone : ∀ (listed : Array Bool) (a : Act) (w : World), listed.size = ops.size → (∀ i, i < ops.size → listed.getD i true = true) → Inv listed a w → Q .normal a w) :
    ∀ (fuel : Nat) (listed : Array Bool) (a : Act) (w : World), listed.size = ops.size → left listed ≤ fuel → Inv listed a w → wpAny P md ops Q fuel listed a w := by
  intro fuel
  induction fuel with
  | zero =>
    intro listed a w hs hl hi
    have hr : Region.ready md ops listed = [] := by
      cases hr : Region.ready md ops listed with
      | nil => rfl
      | cons i t =>
        obtain ⟨o, h1, h2, h3⟩ := mem_ready' (md := md) (ops := ops) (listed := listed) (i := i) (by rw [hr]; simp)
        have := left_set h2
        omega
    exact ⟨hr, hdone listed a w hs (all_listed hb hs hr) hi⟩
  | succ fuel ih =>
    intro listed a w hs hl hi
    refine ⟨fun hr => hdone listed a w hs (all_listed hb hs hr) hi, fun i hm => ?_⟩
    obtain ⟨o, h1, h2, h3⟩ := mem_ready' hm
    have hl2 := left_set h2
    exact wpOp_mono (fun a' w' h => ih _ a' w' (by simpa using hs) (by omega) h) (hstep i o listed a w h1 hs h2 h3 hi)

theorem left_new (n : Nat) : left (Array.replicate n false) = n := by
  unfold left; rw [Array.toList_replicate, List.countP_replicate]; rfl

/-- A region that draws, by such a condition. -/
theorem wp_region_inv {id : Nat} {a : Act} {w : World} (hm : P.follows .mixedOrders = true) (hb : backB ops = true) (Inv : Array Bool → Act → World → Prop) (h0 : Inv (Array.replicate ops.size false) a w.drew)
    (hstep : ∀ (i : Nat) (o : Oper) (listed : Array Bool) (a : Act) (w : World), ops[i]? = some o → listed.size = ops.size → listed.getD i true = false → (∀ e ∈ o.after, Region.binds .any e = true → listed.getD e.on false = true) → Inv listed a w →
      wpOp P ops Q i (fun a' w' => Inv (listed.setIfInBounds i true) a' w') a w)
    (hdone : ∀ (listed : Array Bool) (a : Act) (w : World), listed.size = ops.size → (∀ i, i < ops.size → listed.getD i true = true) → Inv listed a w → Q .normal a w) : (Code.region id ops true).wp P Q a w :=
  wp_region_any hm (wpAny_inv hb Inv hstep hdone ops.size _ a _ (by simp) (by rw [left_new]; exact Nat.le_refl _) h0)
end RI
end Go.Proofs.YtghocdiddolinaaGreatDoor
