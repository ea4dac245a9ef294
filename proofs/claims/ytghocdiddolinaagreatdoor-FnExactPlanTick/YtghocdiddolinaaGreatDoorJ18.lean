/- The program's own copies of plans. -/
import Derived.Test.YtghocdiddolinaaGreatDoorJ4
import Derived.Test.YtghocdiddolinaaGreatDoorJ6
import Derived.Test.YtghocdiddolinaaGreatDoorJ17
import Derived.Test.YtghocdiddolinaaGreatDoorJ16
import Derived.Test.YtghocdiddolinaaGreatDoorJ9
namespace Go.Proofs.YtghocdiddolinaaGreatDoor
set_option linter.unusedVariables false
set_option linter.unusedSimpArgs false
open Go.RowKit Go
namespace Pl

/-- Numbers of a gathered rule: none, or a row of their own. -/
def InS (w : World) (base : Nat) (u : Value) (zs : List Int) : Prop := (zs = [] ∧ ∃ a, u = .slice a 0 0) ∨ w.ownsRow base 3 1 u zs.length (zs.map (Value.int .i64))
def GathS (w : World) (base : Nat) (v : Value) (vs : List Value) (es : List Rul) : Prop :=
  ∃ hv : vs.length = es.length, w.ownsRow base 73 5 v es.length (Cal.flatR es vs) ∧ ∀ i (h : i < es.length), InS w base (vs[i]'(by omega)) es[i].but ∧ Cal.GoodR es[i]
theorem InS.row {w : World} {base : Nat} {u : Value} {zs : List Int} (h : InS w base u zs) (hw : ∀ n ∈ zs, (Lit.int .i64 n).wf = true) : ∃ a c, u = .slice a zs.length c ∧ IsRow .i64 w a zs.length c zs := by
  rcases h with ⟨rfl, a, rfl⟩ | h
  · exact ⟨a, 0, rfl, rfl, Nat.le_refl _, Nat.zero_le _, fun h => absurd h (Nat.lt_irrefl _), hw⟩
  · exact row_int h hw
theorem GathS.ruls {w : World} {base : Nat} {v : Value} {vs : List Value} {es : List Rul} (h : GathS w base v vs es) : ∃ a cap, v = .slice a es.length cap ∧ IsRuls w a es.length cap es := by
  obtain ⟨hv, h1, h2⟩ := h
  rcases h1.2 with ⟨rfl, h0⟩ | ⟨g, cap, cur, rfl, hb, hg, hle, hmx, hsz, htk⟩
  · have : es = [] := List.length_eq_zero_iff.1 h0
    subst this
    exact ⟨none, 0, rfl, rfl, Nat.le_refl _, Nat.zero_le _, fun h => by simp at h⟩
  · refine ⟨_, cap, rfl, rfl, hle, hmx, fun _ => ⟨g, 0, rfl, (Array.getElem?_eq_some_iff.1 hg).1, fun i hi => ?_⟩⟩
    obtain ⟨a, c, hvi, hri⟩ := (h2 i hi).1.row (h2 i hi).2.2.2.2.2
    refine ⟨Cal.cellsR es[i] (vs[i]'(by omega)), rfl, fun j hj => ?_, a, _, c, by rw [hvi]; rfl, hri, (h2 i hi).2.1, (h2 i hi).2.2.1, (h2 i hi).2.2.2.1, (h2 i hi).2.2.2.2.1⟩
    have hj5 : j < 5 := by simpa [Cal.cellsR] using hj
    have hf := Cal.flatR_at es vs i j hv hi hj5
    rw [List.getElem?_eq_getElem hj] at hf
    rw [cell_of_row _ _ _ _ _ _ hg, Nat.zero_add]
    rw [← htk, List.getElem?_take] at hf
    split at hf
    · simpa using hf
    · cases hf
/-- What gathers stands, if its row's block stands and all rows of numbers stand. -/
theorem GathS.stay {w w' : World} {base : Nat} {v : Value} {vs : List Value} {es : List Rul} (h : GathS w base v vs es) (h0 : ∀ b, v.ownBlock = some b → w'.heap[b]? = w.heap[b]?) (h1 : ∀ (k : Nat) (c : Array Value) (fz : Nat × Nat), w.heap[k]? = some (.cells c 3 fz) → w'.heap[k]? = some (.cells c 3 fz)) : GathS w' base v vs es := by
  obtain ⟨hv, k1, k2⟩ := h
  refine ⟨hv, own_stay k1 h0, fun i hi => ⟨?_, (k2 i hi).2⟩⟩
  rcases (k2 i hi).1 with h | h
  · exact .inl h
  · exact .inr (Cal.own_rows h h1)
theorem GathS.below {w w' : World} {base : Nat} {v : Value} {vs : List Value} {es : List Rul} (h : GathS w base v vs es) (hb : Below w.heap.size w w') : GathS w' base v vs es :=
  GathS.stay h (fun b e => hb.block b (World.ownsRow.lt h.2.1 b e).2) (fun k c fz hk => (hb.block k (Array.getElem?_eq_some_iff.1 hk).1).trans hk)
theorem GathS.nil (w : World) (base : Nat) : GathS w base (.slice none 0 0) [] [] := ⟨rfl, World.ownsRow_nil _ _ _ _, fun i h => absurd h (Nat.not_lt_zero i)⟩
theorem acc_form {w : World} {F n : Nat} {e : TypeId} {size : Nat} {v : Value} {xs : List Value} (h : Acc w F e size v n xs) : ∃ a c, v = .slice a n c := by
  rcases h with ⟨rfl, _, a, rfl, _⟩ | h
  · exact ⟨a, 0, rfl⟩
  · exact own_form h
theorem gathS_push {w w' : World} {base : Nat} {v v' u : Value} {vs : List Value} {es : List Rul} {r : Rul} (h : GathS w base v vs es) (hu : InS w base u r.but) (hg : Cal.GoodR r)
    (hA : Acc w' base 73 5 v' (es.length + 1) (Cal.flatR es vs ++ Cal.cellsR r u)) (hk : ∀ k, k < w.heap.size → v.ownBlock ≠ some k → w'.heap[k]? = w.heap[k]?) : GathS w' base v' (vs ++ [u]) (es ++ [r]) := by
  obtain ⟨hv, k1, k2⟩ := h
  have stay : ∀ x zs, InS w base x zs → InS w' base x zs := fun x zs hx => by
    rcases hx with hx | hx
    · exact .inl hx
    · exact .inr (own_stay hx fun b e => hk b (World.ownsRow.lt hx b e).2 (own_ne hx k1 (fun h => tne.1 h.symm) b e))
  have hA' : w'.ownsRow base 73 5 v' (es.length + 1) (Cal.flatR es vs ++ Cal.cellsR r u) := by
    rcases hA with ⟨h0, _⟩ | h
    · omega
    · exact h
  refine ⟨by simp [hv], by rw [Cal.flatR_snoc hv]; simpa using hA', fun i hi => ?_⟩
  by_cases h : i < es.length
  · rw [List.getElem_append_left (by omega : i < vs.length), List.getElem_append_left h]
    exact ⟨stay _ _ (k2 i h).1, (k2 i h).2⟩
  · have hie : i = es.length := by simp at hi; omega
    subst hie
    rw [List.getElem_append_right (by omega : vs.length ≤ es.length), List.getElem_append_right (Nat.le_refl _)]
    simp only [Nat.sub_self, List.getElem_cons_zero, hv]
    exact ⟨stay _ _ hu, hg⟩

theorem InS.stay {w w' : World} {base : Nat} {u : Value} {zs : List Int} (h : InS w base u zs) (h1 : ∀ (k : Nat) (c : Array Value) (fz : Nat × Nat), w.heap[k]? = some (.cells c 3 fz) → w'.heap[k]? = some (.cells c 3 fz)) : InS w' base u zs := by
  rcases h with h | h
  · exact .inl h
  · exact .inr (Cal.own_rows h h1)
theorem GathS.sameP {w w' : World} {base : Nat} {v : Value} {vs : List Value} {es : List Rul} (h : GathS w base v vs es) (hs : SameP w w') : GathS w' base v vs es := by
  obtain ⟨hv, k1, k2⟩ := h
  exact ⟨hv, own_same k1 hs (.inl rfl), fun i hi => ⟨InS.stay (k2 i hi).1 fun k c fz => hs.rows k c _ fz (.inr (.inl rfl)), (k2 i hi).2⟩⟩
theorem InS.of_acc {w : World} {F base : Nat} {u : Value} {zs : List Int} (h : Acc w F 3 1 u zs.length (zs.map (Value.int .i64))) (hb : base ≤ F) : InS w base u zs := by
  rcases h with ⟨h0, _, a, rfl, _⟩ | h
  · exact .inl ⟨List.length_eq_zero_iff.1 h0, a, rfl⟩
  · exact .inr (Cal.own_base h hb)
theorem own_box_ne {w : World} {base n N : Nat} {t t' : TypeId} {size : Nat} {v : Value} {xs : List Value} {cur : Array Value} (h : w.ownsRow base t size v n xs) (hb : Holds w N t' cur) (ht : t ≠ t') : v.ownBlock ≠ some N := fun e => by
  obtain ⟨c1, k1⟩ := Cal.own_int_block h e
  unfold Holds at hb
  rw [k1] at hb
  simp only [Option.some.injEq, Obj.cells.injEq] at hb
  exact ht hb.2.1
theorem int_set {w : World} {N : Nat} {t : TypeId} {cur : Array Value} (h : Holds w N t cur) (ht : t ≠ 3) (i : Nat) (v : Value) : ∀ (k : Nat) (c : Array Value) (fz : Nat × Nat), w.heap[k]? = some (.cells c 3 fz) → (w.setCell ⟨N, i, none⟩ v).heap[k]? = some (.cells c 3 fz) := fun k c fz hk => by
  by_cases e : k = N
  · subst e
    unfold Holds at h
    rw [h] at hk
    simp only [Option.some.injEq, Obj.cells.injEq] at hk
    exact absurd hk.2.1 ht
  · rw [Below.heap_setCell w ⟨N, i, none⟩ v k e]; exact hk
theorem int_below {w w' : World} (hb : Below w.heap.size w w') : ∀ (k : Nat) (c : Array Value) (fz : Nat × Nat), w.heap[k]? = some (.cells c 3 fz) → w'.heap[k]? = some (.cells c 3 fz) := fun k c fz hk => (hb.block k (Array.getElem?_eq_some_iff.1 hk).1).trans hk
theorem al_below (w : World) (o : Obj) : Below w.heap.size w (w.alloc o) := (Below.refl _ _).alloc (Nat.le_refl _) _
theorem tnp : (31 : TypeId) ≠ 3 ∧ (73 : TypeId) ≠ 31 := by decide

/-- What one round of the gathering leaves, ahead of its append. -/
theorem round_stage {wr w5 : World} {base n0 : Nat} {v : Value} {vs : List Value} {es : List Rul} {A B : Array Value} {u : Value} (hn : n0 = wr.heap.size) (hG : GathS wr base v vs es) (hb5 : Below (n0 + 1 + 1) ((wr.alloc (.cells A 73)).alloc (.cells #[] 3)) w5) :
    Holds w5 n0 73 A ∧ Below n0 wr w5 ∧ GathS ((w5.setCell ⟨n0, 4, none⟩ u).alloc (.cells B 73)) base v vs es := by
  subst hn
  have hb5' : Below ((wr.alloc (.cells A 73)).alloc (.cells #[] 3)).heap.size ((wr.alloc (.cells A 73)).alloc (.cells #[] 3)) w5 := by simpa using hb5
  have h0 : Holds w5 wr.heap.size 73 A := ((show Holds (wr.alloc (.cells A 73)) wr.heap.size 73 A from heap_alloc_new _ _).below (al_below _ _)).below hb5'
  have hbw : Below wr.heap.size wr w5 := bcall (((Below.refl _ _).alloc (Nat.le_refl _) _).alloc (by simp) _) (by simp; omega) hb5'
  refine ⟨h0, hbw, GathS.below ?_ (al_below _ _)⟩
  have h1 : GathS w5 base v vs es := GathS.below hG hbw
  exact GathS.stay h1 (fun b e => Below.heap_setCell w5 ⟨wr.heap.size, 4, none⟩ u b (fun e2 => by have := (World.ownsRow.lt hG.2.1 b e).2; simp at e2; omega)) (int_set h0 tne.1 4 u)

end Pl
end Go.Proofs.YtghocdiddolinaaGreatDoor

namespace Go.Proofs.YtghocdiddolinaaGreatDoor
set_option linter.unusedVariables false
set_option linter.unusedSimpArgs false
open Go.RowKit Go
namespace Pl

set_option maxHeartbeats 2000000 in
theorem copyPlan (ra : Option Addr) (rl rc : Nat) (ga : Option Addr) (gl gc : Nat) (wa : Option Addr) (wl wk : Nat) (ta : Option Addr) (tl tc : Nat) (p : Pla) (w : World) (hp : IsPla w ra rl rc ga gl gc wa wl wk ta tl tc p) (hs : plaSmall p) :
    Calls Tryz.prog 52 #[.agg #[.slice ra rl rc, .int .i64 p.pol, .int .i64 p.win, .int .i64 p.last, .slice ga gl gc, .slice wa wl wk, .slice ta tl tc]] w fun e w' => (∃ v0 vs v4 v5 v6, e = .returned (.agg #[v0, .int .i64 p.pol, .int .i64 p.win, .int .i64 p.last, v4, v5, v6]) ∧ GathPV w' w.heap.size v0 vs v4 v5 v6 p) ∧ Below w.heap.size w w' := by
  have hr := (IsRecs.len hp.1).1
  have hg := (hp.2.1.len).1
  have hw := (hp.2.2.1.len).1
  have ht := (IsRecs.len hp.2.2.2).1
  obtain ⟨s1, s2, s3, s4, s5⟩ := hs
  have HP : Hid _ := hp
  clear hp
  have T1 : Hid (∀ w', Below w.heap.size w w' → Calls Tryz.prog 73 #[.slice ra rl rc, .func (.func 74) #[] #[]] w' fun e w'' => (∃ v vs, e = .returned v ∧ Cal.GathV w'' w'.heap.size v vs p.rs) ∧ Below w'.heap.size w' w'') := fun w' hb => copyRules _ _ _ p.rs w' (IsPla.below HP.out hb).1 (by omega) s2
  have T2 : Hid (∀ w', Below w.heap.size w w' → Calls Tryz.prog 75 #[.slice ga gl gc, .func (.func 76) #[] #[]] w' fun e w'' => (∃ v, e = .returned v ∧ w''.ownsRow w'.heap.size 3 1 v gl (p.goes.map (Value.int .i64))) ∧ Below w'.heap.size w' w'') := fun w' hb => copyInts _ _ _ p.goes w' (IsPla.below HP.out hb).2.1 (by omega)
  have T3 : Hid (∀ w', Below w.heap.size w w' → Calls Tryz.prog 75 #[.slice wa wl wk, .func (.func 76) #[] #[]] w' fun e w'' => (∃ v, e = .returned v ∧ w''.ownsRow w'.heap.size 3 1 v wl (p.waits.map (Value.int .i64))) ∧ Below w'.heap.size w' w'') := fun w' hb => copyInts _ _ _ p.waits w' (IsPla.below HP.out hb).2.2.1 (by omega)
  have T4 : Hid (∀ w', Below w.heap.size w w' → Calls Tryz.prog 77 #[.slice ta tl tc, .func (.func 78) #[] #[]] w' fun e w'' => (∃ v, e = .returned v ∧ w''.ownsRow w'.heap.size 61 2 v tl (flatT p.told)) ∧ Below w'.heap.size w' w'') := fun w' hb => copyTolds _ _ _ p.told w' (IsPla.below HP.out hb).2.2.2 (by omega)
  clear s2
  have hbx := boxes2_new w 31 31 #[.slice ra rl rc, .int .i64 p.pol, .int .i64 p.win, .int .i64 p.last, .slice ga gl gc, .slice wa wl wk, .slice ta tl tc] #[.slice none 0 0, .int .i64 0, .int .i64 0, .int .i64 0, .slice none 0 0, .slice none 0 0, .slice none 0 0]
  have HBX : Hid _ := hbx
  clear hbx
  have hbe : ∀ (i : Nat) (v : Value) (W : World), Below w.heap.size w W → Below w.heap.size w (W.setCell ⟨w.heap.size, i, none⟩ v) := fun i v W h => h.setCell (p := ⟨w.heap.size, i, none⟩) (Nat.le_refl _) v
  have HBE : Hid _ := hbe
  clear hbe
  go_enter Tryz.func52, Tryz.ntmps52
  go_wp2_with fail
  refine (T1.out _ (by first | exact ((Below.refl _ _).alloc (Nat.le_refl _) _).alloc (by simp) _)).mono ?_
  rintro e w1 ⟨⟨v0, vs, rfl, hn1⟩, hb1⟩
  obtain ⟨a0, k0, rfl⟩ := own_form hn1.2.1
  rw [hr] at hn1 ⊢
  have HX1 : Hid _ := HBX.out.1.below hb1
  have HY1 : Hid _ := HBX.out.2.below hb1
  have HLO : Hid (∀ i (hi : i < vs.length), ∀ b, vs[i].ownBlock = some b → b < w1.heap.size) := fun i hi b hb => (World.ownsRow.lt (hn1.2.2.1 i (by have := hn1.1; omega)).1 b hb).2
  have HN1 : Hid _ := gathV_base hn1 (base' := w.heap.size) (by simp; omega)
  have HB1 : Hid _ := bcall (((Below.refl w.heap.size w).alloc (Nat.le_refl _) _).alloc (by simp) _) (by simp; omega) hb1
  have hz1 : w.heap.size + 1 + 1 ≤ w1.heap.size := by have := hb1.size; simpa using this
  clear hn1 hb1
  obtain ⟨x0, x1, x2, x3, x4, x5, x6, xf⟩ := sevenOf HX1.out
  go_wp2_with fail
  obtain ⟨y1, z1⟩ := box_set HX1.out 0 (.slice a0 rl k0) rfl
  have yb := HBE.out 0 (.slice a0 rl k0) _ HB1.out
  refine (T2.out _ yb).mono ?_
  rintro e w2 ⟨⟨v4, rfl, hn2⟩, hb2⟩
  obtain ⟨a4, k4, rfl⟩ := own_form hn2
  have HX2 : Hid _ := y1.below hb2
  have HY2 : Hid _ := (holds_else HY1.out (M := w.heap.size) (by omega) 0 (.slice a0 rl k0)).below hb2
  have zz := z1.trans (SameP.below hb2)
  have HN1b : Hid _ := GathV_same HN1.out zz.toT
  have HL4 : Hid (∀ b, (Value.slice a4 gl k4).ownBlock = some b → w1.heap.size ≤ b ∧ b < w2.heap.size) := fun b hb => by have := World.ownsRow.lt hn2 b hb; simpa using this
  have HN2 : Hid _ := Cal.own_base hn2 (base' := w.heap.size) (by simp; omega)
  have HB2 : Hid _ := bcall yb (by have := HB1.out.size; simpa using this) hb2
  have hz2 : w1.heap.size ≤ w2.heap.size := by have := hb2.size; simpa using this
  clear y1 z1 yb hb2 hn2 zz x0 x1 x2 x3 x4 x5 x6 xf
  obtain ⟨x0, x1, x2, x3, x4, x5, x6, xf⟩ := sevenOf HX2.out
  go_wp2_with fail
  obtain ⟨y1, z1⟩ := box_set HX2.out 4 (.slice a4 gl k4) rfl
  have yb := HBE.out 4 (.slice a4 gl k4) _ HB2.out
  refine (T3.out _ yb).mono ?_
  rintro e w3 ⟨⟨v5, rfl, hn3⟩, hb3⟩
  obtain ⟨a5, k5, rfl⟩ := own_form hn3
  have HX3 : Hid _ := y1.below hb3
  have HY3 : Hid _ := (holds_else HY2.out (M := w.heap.size) (by omega) 4 (.slice a4 gl k4)).below hb3
  have zz := z1.trans (SameP.below hb3)
  have HN1c : Hid _ := GathV_same HN1b.out zz.toT
  have HN2c : Hid _ := own_same HN2.out zz (.inr (.inl rfl))
  have HL5 : Hid (∀ b, (Value.slice a5 wl k5).ownBlock = some b → w2.heap.size ≤ b) := fun b hb => by have := (World.ownsRow.lt hn3 b hb).1; simpa using this
  have HN3 : Hid _ := Cal.own_base hn3 (base' := w.heap.size) (by simp; omega)
  have HB3 : Hid _ := bcall yb (by have := HB2.out.size; simpa using this) hb3
  have hz3 : w2.heap.size ≤ w3.heap.size := by have := hb3.size; simpa using this
  clear y1 z1 yb hb3 hn3 zz x0 x1 x2 x3 x4 x5 x6 xf
  obtain ⟨x0, x1, x2, x3, x4, x5, x6, xf⟩ := sevenOf HX3.out
  go_wp2_with fail
  obtain ⟨y1, z1⟩ := box_set HX3.out 5 (.slice a5 wl k5) rfl
  have yb := HBE.out 5 (.slice a5 wl k5) _ HB3.out
  refine (T4.out _ yb).mono ?_
  rintro e w4 ⟨⟨v6, rfl, hn4⟩, hb4⟩
  obtain ⟨a6, k6, rfl⟩ := own_form hn4
  have HX4 : Hid _ := y1.below hb4
  have HY4 : Hid _ := (holds_else HY3.out (M := w.heap.size) (by omega) 5 (.slice a5 wl k5)).below hb4
  have zz := z1.trans (SameP.below hb4)
  have HN1d : Hid _ := GathV_same HN1c.out zz.toT
  have HN2d : Hid _ := own_same HN2c.out zz (.inr (.inl rfl))
  have HN3d : Hid _ := own_same HN3.out zz (.inr (.inl rfl))
  have HN4 : Hid _ := Cal.own_base hn4 (base' := w.heap.size) (by simp; omega)
  have HB4 : Hid _ := bcall yb (by have := HB3.out.size; simpa using this) hb4
  clear y1 z1 yb hb4 hn4 zz x0 x1 x2 x3 x4 x5 x6 xf
  obtain ⟨x0, x1, x2, x3, x4, x5, x6, xf⟩ := sevenOf HX4.out
  obtain ⟨b0, b1, b2, b3, b4, b5, b6, bf⟩ := sevenOf HY4.out
  go_wp2_with fail
  have fill : SameP w4 ((((((((w4.setCell ⟨w.heap.size, 6, none⟩ (.slice a6 tl k6)).setCell ⟨w.heap.size + 1, 0, none⟩ (.slice a0 rl k0)).setCell ⟨w.heap.size + 1, 1, none⟩ (.int .i64 p.pol)).setCell ⟨w.heap.size + 1, 2, none⟩ (.int .i64 p.win)).setCell ⟨w.heap.size + 1, 3, none⟩ (.int .i64 p.last)).setCell ⟨w.heap.size + 1, 4, none⟩ (.slice a4 gl k4)).setCell ⟨w.heap.size + 1, 5, none⟩ (.slice a5 wl k5)).setCell ⟨w.heap.size + 1, 6, none⟩ (.slice a6 tl k6)) := by
    obtain ⟨_, z⟩ := box_set HX4.out 6 (.slice a6 tl k6) rfl
    have y := holds_else HY4.out (M := w.heap.size) (by omega) 6 (.slice a6 tl k6)
    obtain ⟨y0, z0⟩ := box_set y 0 (.slice a0 rl k0) rfl
    obtain ⟨y1, z1⟩ := box_set y0 1 (.int .i64 p.pol) rfl
    obtain ⟨y2, z2⟩ := box_set y1 2 (.int .i64 p.win) rfl
    obtain ⟨y3, z3⟩ := box_set y2 3 (.int .i64 p.last) rfl
    obtain ⟨y4, z4⟩ := box_set y3 4 (.slice a4 gl k4) rfl
    obtain ⟨y5, z5⟩ := box_set y4 5 (.slice a5 wl k5) rfl
    obtain ⟨_, z6⟩ := box_set y5 6 (.slice a6 tl k6) rfl
    exact ((((((z.trans z0).trans z1).trans z2).trans z3).trans z4).trans z5).trans z6
  refine bodyPost_ret (v := .agg #[.slice a0 rl k0, .int .i64 p.pol, .int .i64 p.win, .int .i64 p.last, .slice a4 gl k4, .slice a5 wl k5, .slice a6 tl k6]) ?_ rfl ?_
  · simp [results, Tryz.results52, go_sem, b0, b1, b2, b3, b4, b5, b6]
  · refine ⟨⟨_, vs, _, _, _, rfl, GathPV.same ?_ fill⟩, ?_⟩
    · refine ⟨HN1d.out, ⟨?_, HP.out.2.1.wf⟩, ⟨?_, HP.out.2.2.1.wf⟩, ⟨?_, fun i hi => (IsTlds.at HP.out.2.2.2 hi).choose_spec.choose_spec.2.2.2.2.2⟩, fun b hb => ⟨fun hc => ?_, fun i hi hc => ?_⟩, fun b hb i hi hc => ?_⟩
      · rw [hg]; exact HN2d.out
      · rw [hw]; exact HN3d.out
      · rw [ht]; exact HN4.out
      · have k1 := HL4.out b hb; have k2 := HL5.out b hc; omega
      · have k1 := HL4.out b hb; have k2 := HLO.out i hi b hc; omega
      · have k1 := HL5.out b hb; have k2 := HLO.out i hi b hc; omega
    · have hq := HB4.out
      exact (((((((hq.setCell (by simp only; omega) _).setCell (by simp only; omega) _).setCell (by simp only; omega) _).setCell (by simp only; omega) _).setCell (by simp only; omega) _).setCell (by simp only; omega) _).setCell (by simp only; omega) _).setCell (by simp only; omega) _

theorem gathPV_base {w : World} {base base' : Nat} {v0 : Value} {vs : List Value} {v4 v5 v6 : Value} {p : Pla} (h : GathPV w base v0 vs v4 v5 v6 p) (hb : base' ≤ base) : GathPV w base' v0 vs v4 v5 v6 p := by
  obtain ⟨h1, h2, h3, h4, h5⟩ := h
  exact ⟨gathV_base h1 hb, ⟨Cal.own_base h2.1 hb, h2.2⟩, ⟨Cal.own_base h3.1 hb, h3.2⟩, ⟨Cal.own_base h4.1 hb, h4.2⟩, h5⟩
theorem gathPV_none (w : World) (base : Nat) : GathPV w base (.slice none 0 0) [] (.slice none 0 0) (.slice none 0 0) (.slice none 0 0) ⟨[], 0, 0, 0, [], [], []⟩ :=
  ⟨⟨rfl, World.ownsRow_nil _ _ _ _, fun i h => by simp at h, fun i j hi => by simp at hi⟩, ⟨World.ownsRow_nil _ _ _ _, fun n hn => by cases hn⟩, ⟨World.ownsRow_nil _ _ _ _, fun n hn => by cases hn⟩, ⟨World.ownsRow_nil _ _ _ _, fun i h => absurd h (Nat.not_lt_zero i)⟩, (fun b hb => by simp [Value.ownBlock] at hb), (fun b hb => by simp [Value.ownBlock] at hb)⟩
/-- Seven cells of a box are stored. -/
theorem fill7 {W : World} {N : Nat} {u0 u1 u2 u3 u4 u5 u6 : Value} (h : Holds W N 31 #[u0, u1, u2, u3, u4, u5, u6]) (v0 v1 v2 v3 v4 v5 v6 : Value) : SameP W (((((((W.setCell ⟨N, 0, none⟩ v0).setCell ⟨N, 1, none⟩ v1).setCell ⟨N, 2, none⟩ v2).setCell ⟨N, 3, none⟩ v3).setCell ⟨N, 4, none⟩ v4).setCell ⟨N, 5, none⟩ v5).setCell ⟨N, 6, none⟩ v6) := by
  obtain ⟨y0, z0⟩ := box_set h 0 v0 rfl
  obtain ⟨y1, z1⟩ := box_set y0 1 v1 rfl
  obtain ⟨y2, z2⟩ := box_set y1 2 v2 rfl
  obtain ⟨y3, z3⟩ := box_set y2 3 v3 rfl
  obtain ⟨y4, z4⟩ := box_set y3 4 v4 rfl
  obtain ⟨y5, z5⟩ := box_set y4 5 v5 rfl
  obtain ⟨_, z6⟩ := box_set y5 6 v6 rfl
  exact (((((z0.trans z1).trans z2).trans z3).trans z4).trans z5).trans z6
theorem below7 {B : Nat} {w W : World} {N : Nat} (h : Below B w W) (hN : B ≤ N) (v0 v1 v2 v3 v4 v5 v6 : Value) : Below B w (((((((W.setCell ⟨N, 0, none⟩ v0).setCell ⟨N, 1, none⟩ v1).setCell ⟨N, 2, none⟩ v2).setCell ⟨N, 3, none⟩ v3).setCell ⟨N, 4, none⟩ v4).setCell ⟨N, 5, none⟩ v5).setCell ⟨N, 6, none⟩ v6) :=
  ((((((h.setCell hN _).setCell hN _).setCell hN _).setCell hN _).setCell hN _).setCell hN _).setCell hN _

end Pl
end Go.Proofs.YtghocdiddolinaaGreatDoor
