/- Marks on whole plans: held; laid. -/
import Derived.Test.YtghocdiddolinaaGreatDoorJ14
import Derived.Test.YtghocdiddolinaaGreatDoorJ9
import Derived.Test.YtghocdiddolinaaGreatDoorJ16
namespace Go.Proofs.YtghocdiddolinaaGreatDoor
set_option linter.unusedVariables false
set_option linter.unusedSimpArgs false
open Go.RowKit Go
namespace Pl

def pE1 (p : Pla) (k : Nat) : Nat := Cal.mEnd p.rs k
def pE2 (p : Pla) (k : Nat) : Nat := pE1 p k + p.goes.length
def pE3 (p : Pla) (k : Nat) : Nat := pE2 p k + p.waits.length
def pE4 (p : Pla) (k : Nat) : Nat := pE3 p k + 2 * p.told.length
/-- A plan, marked from k on. -/
def mP (p : Pla) (k : Nat) : Pla := ⟨Cal.mEs p.rs k, p.pol, p.win, p.last, Cal.mN (pE1 p k) p.goes.length, Cal.mN (pE2 p k) p.waits.length, mT (pE3 p k) p.told.length⟩

set_option maxHeartbeats 1000000 in
theorem heldPlan (ra : Option Addr) (rl rc : Nat) (ga : Option Addr) (gl gc : Nat) (wa : Option Addr) (wl wk : Nat) (ta : Option Addr) (tl tc : Nat) (x1 x2 x3 : Value) (p : Pla) (k : Nat) (w : World) (hp : IsPla w ra rl rc ga gl gc wa wl wk ta tl tc (mP p k)) (h1 : 1 ≤ k) (hk : pE4 p k ≤ 4000000000000) :
    Calls Tryz.prog 13 #[.agg #[.slice ra rl rc, x1, x2, x3, .slice ga gl gc, .slice wa wl wk, .slice ta tl tc], .int .i64 k] w fun e w' => e = .returned (.int .i64 ((pE4 p k : Nat) : Int)) ∧ Below w.heap.size w w' := by
  have HP : Hid _ := hp
  clear hp
  have H1 : Hid (∀ w', Below w.heap.size w w' → Calls Tryz.prog 36 #[.slice ra rl rc, .int .i64 k] w' fun e w'' => e = .returned (.int .i64 ((pE1 p k : Nat) : Int)) ∧ Below w'.heap.size w' w'') := fun w' hb => Cal.heldCalRuleS ra rl rc k p.rs w' (IsPla.below HP.out hb).1 h1 (by unfold pE4 pE3 pE2 pE1 at hk; omega)
  have H2 : Hid (∀ w', Below w.heap.size w w' → Calls Tryz.prog 37 #[.slice ga gl gc, .int .i64 ((pE1 p k : Nat) : Int)] w' fun e w'' => e = .returned (.int .i64 ((pE2 p k : Nat) : Int)) ∧ Below w'.heap.size w' w'') := fun w' hb => Cal.heldIntS ga gl gc (pE1 p k) p.goes.length w' (IsPla.below HP.out hb).2.1 (by unfold pE4 pE3 pE2 at hk; omega)
  have H3 : Hid (∀ w', Below w.heap.size w w' → Calls Tryz.prog 37 #[.slice wa wl wk, .int .i64 ((pE2 p k : Nat) : Int)] w' fun e w'' => e = .returned (.int .i64 ((pE3 p k : Nat) : Int)) ∧ Below w'.heap.size w' w'') := fun w' hb => Cal.heldIntS wa wl wk (pE2 p k) p.waits.length w' (IsPla.below HP.out hb).2.2.1 (by unfold pE4 pE3 at hk; omega)
  have H4 : Hid (∀ w', Below w.heap.size w w' → Calls Tryz.prog 14 #[.slice ta tl tc, .int .i64 ((pE3 p k : Nat) : Int)] w' fun e w'' => e = .returned (.int .i64 ((pE4 p k : Nat) : Int)) ∧ Below w'.heap.size w' w'') := fun w' hb => heldTold ta tl tc (pE3 p k) p.told.length w' (IsPla.below HP.out hb).2.2.2 (by unfold pE4 at hk; omega)
  have b1 : (pE1 p k : Int) ≤ 4000000000000 := by unfold pE4 pE3 pE2 at hk; omega
  have b2 : (pE2 p k : Int) ≤ 4000000000000 := by unfold pE4 pE3 at hk; omega
  have b3 : (pE3 p k : Int) ≤ 4000000000000 := by unfold pE4 at hk; omega
  have b4 : (pE4 p k : Int) ≤ 4000000000000 := by omega
  clear hk
  generalize pE4 p k = k4 at H4 b4 ⊢
  generalize pE3 p k = k3 at H3 H4 b3
  generalize pE2 p k = k2 at H2 H3 b2
  generalize pE1 p k = k1 at H1 H2 b1
  go_enter Tryz.func13, Tryz.ntmps13
  go_wp2_with fail
  refine (H1.out _ ((Below.refl _ _).alloc (Nat.le_refl _) _)).mono ?_
  rintro e w1 ⟨rfl, hb1⟩
  have hB := below_box hb1
  have HB1 : Hid _ := hB
  have c4 := boxAt hB (i := 4) rfl
  clear hb1 hB
  go_wp2_with fail
  refine (H2.out _ (unbox HB1.out)).mono ?_
  rintro e w2 ⟨rfl, hb2⟩
  have hB := bcall HB1.out (by have := HB1.out.size; simpa using this) hb2
  have HB2 : Hid _ := hB
  have c5 := boxAt hB (i := 5) rfl
  clear hb2 hB c4
  go_wp2_with fail
  refine (H3.out _ (unbox HB2.out)).mono ?_
  rintro e w3 ⟨rfl, hb3⟩
  have hB := bcall HB2.out (by have := HB2.out.size; simpa using this) hb3
  have HB3 : Hid _ := hB
  have c6 := boxAt hB (i := 6) rfl
  clear hb3 hB c5
  go_wp2_with fail
  refine (H4.out _ (unbox HB3.out)).mono ?_
  rintro e w4 ⟨rfl, hb4⟩
  have HB4 : Hid _ := bcall HB3.out (by have := HB3.out.size; simpa using this) hb4
  clear hb4 c6
  go_wp2_with fail
  go_ret
  exact ⟨rfl, unbox HB4.out⟩

/-- A plan that was gathered, the rows of its rules' numbers told. -/
def GathPV (w : World) (base : Nat) (v0 : Value) (vs : List Value) (v4 v5 v6 : Value) (p : Pla) : Prop :=
  Cal.GathV w base v0 vs p.rs ∧ (w.ownsRow base 3 1 v4 p.goes.length (p.goes.map (Value.int .i64)) ∧ ∀ n ∈ p.goes, (Lit.int .i64 n).wf = true) ∧ (w.ownsRow base 3 1 v5 p.waits.length (p.waits.map (Value.int .i64)) ∧ ∀ n ∈ p.waits, (Lit.int .i64 n).wf = true) ∧
    (w.ownsRow base 61 2 v6 p.told.length (flatT p.told) ∧ ∀ i (h : i < p.told.length), GoodT p.told[i]) ∧
    (∀ b, v4.ownBlock = some b → v5.ownBlock ≠ some b ∧ ∀ i (hi : i < vs.length), vs[i].ownBlock ≠ some b) ∧ ∀ b, v5.ownBlock = some b → ∀ i (hi : i < vs.length), vs[i].ownBlock ≠ some b
theorem GathPV.gath {w : World} {base : Nat} {v0 : Value} {vs : List Value} {v4 v5 v6 : Value} {p : Pla} (h : GathPV w base v0 vs v4 v5 v6 p) : GathP w base v0 v4 v5 v6 p := ⟨vs, h⟩
theorem GathPV.same {w w' : World} {base : Nat} {v0 : Value} {vs : List Value} {v4 v5 v6 : Value} {p : Pla} (h : GathPV w base v0 vs v4 v5 v6 p) (hs : SameP w w') : GathPV w' base v0 vs v4 v5 v6 p := by
  obtain ⟨h1, h2, h3, h4, h5⟩ := h
  exact ⟨h1.same hs.toT, ⟨own_same h2.1 hs (.inr (.inl rfl)), h2.2⟩, ⟨own_same h3.1 hs (.inr (.inl rfl)), h3.2⟩, ⟨own_same h4.1 hs (.inr (.inr rfl)), h4.2⟩, h5⟩

theorem own_stay {w w' : World} {base n : Nat} {t : TypeId} {size : Nat} {v : Value} {xs : List Value} (h : w.ownsRow base t size v n xs) (hk : ∀ b, v.ownBlock = some b → w'.heap[b]? = w.heap[b]?) : w'.ownsRow base t size v n xs := by
  refine ⟨h.1, ?_⟩
  rcases h.2 with h0 | ⟨g, cap, cur, h1, h2, h3, h4⟩
  · exact .inl h0
  · exact .inr ⟨g, cap, cur, h1, h2, (hk g (by subst h1; simp [Value.ownBlock])).trans h3, h4⟩
theorem own_ne {w : World} {b1 b2 n1 n2 : Nat} {t1 t2 : TypeId} {s1 s2 : Nat} {v1 v2 : Value} {x1 x2 : List Value} (h1 : w.ownsRow b1 t1 s1 v1 n1 x1) (h2 : w.ownsRow b2 t2 s2 v2 n2 x2) (ht : t1 ≠ t2) : ∀ b, v1.ownBlock = some b → v2.ownBlock ≠ some b := fun b e1 e2 => by
  obtain ⟨c1, k1⟩ := Cal.own_int_block h1 e1
  obtain ⟨c2, k2⟩ := Cal.own_int_block h2 e2
  rw [k1] at k2
  simp only [Option.some.injEq, Obj.cells.injEq] at k2
  exact ht k2.2.1
theorem tne : (73 : TypeId) ≠ 3 ∧ (73 : TypeId) ≠ 61 ∧ (3 : TypeId) ≠ 61 := by decide
theorem gathV_stay {w w' : World} {base : Nat} {v : Value} {vs : List Value} {es : List Rul} (h : Cal.GathV w base v vs es) (h0 : ∀ b, v.ownBlock = some b → w'.heap[b]? = w.heap[b]?) (h1 : ∀ i (hi : i < vs.length) b, vs[i].ownBlock = some b → w'.heap[b]? = w.heap[b]?) : Cal.GathV w' base v vs es := by
  obtain ⟨hv, k1, k2, k3⟩ := h
  exact ⟨hv, own_stay k1 h0, fun i hi => ⟨own_stay (k2 i hi).1 (h1 i (by omega)), (k2 i hi).2⟩, k3⟩
theorem good_mN {k n : Nat} (hk : k + n ≤ 4000000000000) : ∀ z ∈ Cal.mN k n, (Lit.int .i64 z).wf = true := fun z hz => by
  have := Cal.mN_mem hz
  exact Cal.wf_nat (by omega)
theorem good_mT {k n : Nat} (hk : k + 2 * n ≤ 4000000000000) : ∀ i (h : i < (mT k n).length), GoodT (mT k n)[i] := fun i h => by
  have hl := mT_len k n
  rw [mT_at]
  exact ⟨Cal.wf_nat (z := ((k + 2 * i : Nat) : Int)) (by omega), Cal.wf_nat (z := ((k + 2 * i + 1 : Nat) : Int)) (by omega)⟩

set_option maxHeartbeats 2000000 in
theorem markPlan (v0 : Value) (vs : List Value) (v4 v5 v6 : Value) (base k : Nat) (p : Pla) (w : World) (h : GathPV w base v0 vs v4 v5 v6 p) (h1 : 1 ≤ k) (hk : pE4 p k ≤ 4000000000000) (hbase : base ≤ w.heap.size) :
    Calls Tryz.prog 11 #[.agg #[v0, .int .i64 p.pol, .int .i64 p.win, .int .i64 p.last, v4, v5, v6], .int .i64 k] w fun e w' => e = .returned (.int .i64 ((pE4 p k : Nat) : Int)) ∧ GathPV w' base v0 vs v4 v5 v6 (mP p k) ∧ Below base w w' ∧
      ∀ b, b < w.heap.size → v0.ownBlock ≠ some b → (∀ i (hi : i < vs.length), vs[i].ownBlock ≠ some b) → v4.ownBlock ≠ some b → v5.ownBlock ≠ some b → v6.ownBlock ≠ some b → w'.heap[b]? = w.heap[b]? := by
  obtain ⟨a0, k0, rfl⟩ := own_form h.1.2.1
  obtain ⟨a4, k4, rfl⟩ := own_form h.2.1.1
  obtain ⟨a5, k5, rfl⟩ := own_form h.2.2.1.1
  obtain ⟨a6, k6, rfl⟩ := own_form h.2.2.2.1.1
  have hsz : ∀ b, (b < w.heap.size → False) → (Value.slice a0 p.rs.length k0).ownBlock ≠ some b ∧ (∀ i (hi : i < vs.length), vs[i].ownBlock ≠ some b) ∧ (Value.slice a4 p.goes.length k4).ownBlock ≠ some b ∧ (Value.slice a5 p.waits.length k5).ownBlock ≠ some b ∧ (Value.slice a6 p.told.length k6).ownBlock ≠ some b := fun b hb =>
    ⟨fun e => hb (World.ownsRow.lt h.1.2.1 b e).2, fun i hi e => hb (World.ownsRow.lt (h.1.2.2.1 i (by have := h.1.1; omega)).1 b e).2, fun e => hb (World.ownsRow.lt h.2.1.1 b e).2, fun e => hb (World.ownsRow.lt h.2.2.1.1 b e).2, fun e => hb (World.ownsRow.lt h.2.2.2.1.1 b e).2⟩
  have HSZ : Hid _ := hsz
  have HG : Hid _ := h.same (SameP.below ((Below.refl _ _).alloc (Nat.le_refl _) (.cells #[.slice a0 p.rs.length k0, .int .i64 p.pol, .int .i64 p.win, .int .i64 p.last, .slice a4 p.goes.length k4, .slice a5 p.waits.length k5, .slice a6 p.told.length k6] 31)))
  clear h hsz
  obtain ⟨g1, g2, g3, g4, g5, g6⟩ := HG.out
  go_enter Tryz.func11, Tryz.ntmps11
  go_wp2_with fail
  refine (Cal.markCalRuleV _ vs base k p.rs _ g1 h1 (by unfold pE4 pE3 pE2 pE1 at hk; omega) (by simp; omega)).mono ?_
  rintro e w1 ⟨rfl, hG1, hb1, he1⟩
  have e1 : pE1 p k = Cal.mEnd p.rs k := rfl
  rw [← e1]
  have K1 : pE1 p k + p.goes.length ≤ 4000000000000 := by unfold pE4 pE3 pE2 at hk; omega
  have K2 : pE2 p k + p.waits.length ≤ 4000000000000 := by unfold pE4 pE3 at hk; omega
  have K3 : pE3 p k + 2 * p.told.length ≤ 4000000000000 := by unfold pE4 at hk; omega
  have hN := HSZ.out w.heap.size (fun h => Nat.lt_irrefl _ h)
  have hX1 : Holds w1 w.heap.size 31 #[.slice a0 p.rs.length k0, .int .i64 p.pol, .int .i64 p.win, .int .i64 p.last, .slice a4 p.goes.length k4, .slice a5 p.waits.length k5, .slice a6 p.told.length k6] := (he1.2 w.heap.size (by simp) hN.1 hN.2.1).trans (heap_alloc_new _ _)
  have s4 := own_stay g2.1 fun b e => he1.2 b (World.ownsRow.lt g2.1 b e).2 (own_ne g2.1 g1.2.1 (fun h => tne.1 h.symm) b e) (g5 b e).2
  have s5 := own_stay g3.1 fun b e => he1.2 b (World.ownsRow.lt g3.1 b e).2 (own_ne g3.1 g1.2.1 (fun h => tne.1 h.symm) b e) (g6 b e)
  have s6 := own_stay g4.1 fun b e => he1.2 b (World.ownsRow.lt g4.1 b e).2 (own_ne g4.1 g1.2.1 (fun h => tne.2.1 h.symm) b e) (fun i hi => own_ne g4.1 (g1.2.2.1 i (by have := g1.1; omega)).1 (fun h => tne.2.2 h.symm) b e)
  have hB1 : Below base w w1 := ((Below.refl base w).alloc hbase _).trans hb1
  have hsz1 : w.heap.size < w1.heap.size := by have := he1.1; simp at this; omega
  have hfr1 : ∀ b, b < w.heap.size → (Value.slice a0 p.rs.length k0).ownBlock ≠ some b → (∀ i (hi : i < vs.length), vs[i].ownBlock ≠ some b) → w1.heap[b]? = w.heap[b]? := fun b hb n1 n2 => (he1.2 b (by simp; omega) n1 n2).trans (Below.heap_alloc _ _ _ hb)
  have HFR1 : Hid _ := hfr1
  have HG1 : Hid _ := hG1
  have HX1 : Hid _ := hX1
  have HB1 : Hid _ := hB1
  have S4 : Hid _ := s4
  have S5 : Hid _ := s5
  have S6 : Hid _ := s6
  have G5 : Hid _ := g5
  have G6 : Hid _ := g6
  have G2W : Hid _ := g2.2
  have G3W : Hid _ := g3.2
  clear g1 g2 g3 g4 g5 g6 HG hG1 hX1 hB1 s4 s5 s6 hb1 he1 hfr1 hk
  obtain ⟨_, _, _, _, c4, c5, c6, _⟩ := sevenOf HX1.out
  have M4 : Hid (∀ w, w.ownsRow base 3 1 (.slice a4 p.goes.length k4) p.goes.length (p.goes.map (Value.int .i64)) → Calls Tryz.prog 35 #[.slice a4 p.goes.length k4, .int .i64 ((pE1 p k : Nat) : Int)] w fun e w' => e = .returned (.int .i64 ((pE2 p k : Nat) : Int)) ∧ w'.ownsRow base 3 1 (.slice a4 p.goes.length k4) p.goes.length ((Cal.mN (pE1 p k) p.goes.length).map (Value.int .i64)) ∧ w.grownBy w' (Value.slice a4 p.goes.length k4).ownBlock) := fun w h => Cal.markIntS _ base (pE1 p k) p.goes w h (by omega)
  have M5 : Hid (∀ w, w.ownsRow base 3 1 (.slice a5 p.waits.length k5) p.waits.length (p.waits.map (Value.int .i64)) → Calls Tryz.prog 35 #[.slice a5 p.waits.length k5, .int .i64 ((pE2 p k : Nat) : Int)] w fun e w' => e = .returned (.int .i64 ((pE3 p k : Nat) : Int)) ∧ w'.ownsRow base 3 1 (.slice a5 p.waits.length k5) p.waits.length ((Cal.mN (pE2 p k) p.waits.length).map (Value.int .i64)) ∧ w.grownBy w' (Value.slice a5 p.waits.length k5).ownBlock) := fun w h => Cal.markIntS _ base (pE2 p k) p.waits w h (by omega)
  have M6 : Hid (∀ w, w.ownsRow base 61 2 (.slice a6 p.told.length k6) p.told.length (flatT p.told) → Calls Tryz.prog 12 #[.slice a6 p.told.length k6, .int .i64 ((pE3 p k : Nat) : Int)] w fun e w' => e = .returned (.int .i64 ((pE4 p k : Nat) : Int)) ∧ w'.ownsRow base 61 2 (.slice a6 p.told.length k6) p.told.length (flatT (mT (pE3 p k) p.told.length)) ∧ w.grownBy w' (Value.slice a6 p.told.length k6).ownBlock) := fun w h => markTold _ base (pE3 p k) p.told w h (by omega)
  go_wp2_with fail
  refine (M4.out _ S4.out).mono ?_
  rintro e w2 ⟨rfl, t4, hg2⟩
  have G1b : Hid _ := gathV_stay HG1.out (w' := w2) (fun b e => hg2.block b (World.ownsRow.lt HG1.out.2.1 b e).2 (fun e2 => own_ne S4.out HG1.out.2.1 (fun h => tne.1 h.symm) b e2.symm e)) (fun i hi b e => hg2.block b (World.ownsRow.lt (HG1.out.2.2.1 i (by have := HG1.out.1; omega)).1 b e).2 (fun e2 => (G5.out b e2.symm).2 i hi e))
  have S5b : Hid _ := own_stay S5.out (w' := w2) fun b e => hg2.block b (World.ownsRow.lt S5.out b e).2 (fun e2 => (G5.out b e2.symm).1 e)
  have S6b : Hid _ := own_stay S6.out (w' := w2) fun b e => hg2.block b (World.ownsRow.lt S6.out b e).2 (fun e2 => own_ne S4.out S6.out tne.2.2 b e2.symm e)
  have hX2 : Holds w2 w.heap.size 31 #[.slice a0 p.rs.length k0, .int .i64 p.pol, .int .i64 p.win, .int .i64 p.last, .slice a4 p.goes.length k4, .slice a5 p.waits.length k5, .slice a6 p.told.length k6] := (hg2.block _ hsz1 (fun e => hN.2.2.1 e.symm)).trans HX1.out
  have HX2 : Hid _ := hX2
  have HB2 : Hid _ := HB1.out.trans ((Below.refl base w1).grown hg2 (Nat.le_trans hbase HB1.out.size) (fun b e => (World.ownsRow.lt S4.out b e).1))
  have hsz2 : w1.heap.size ≤ w2.heap.size := hg2.size
  have HG2 : Hid _ := hg2
  have T4 : Hid _ := t4
  clear hX2 hg2 t4 c4 c5 c6
  obtain ⟨_, _, _, _, c4, c5, c6, _⟩ := sevenOf HX2.out
  go_wp2_with fail
  refine (M5.out _ S5b.out).mono ?_
  rintro e w3 ⟨rfl, t5, hg3⟩
  have G1c : Hid _ := gathV_stay G1b.out (w' := w3) (fun b e => hg3.block b (World.ownsRow.lt G1b.out.2.1 b e).2 (fun e2 => own_ne S5b.out G1b.out.2.1 (fun h => tne.1 h.symm) b e2.symm e)) (fun i hi b e => hg3.block b (World.ownsRow.lt (G1b.out.2.2.1 i (by have := G1b.out.1; omega)).1 b e).2 (fun e2 => (G6.out b e2.symm) i hi e))
  have T4b : Hid _ := own_stay T4.out (w' := w3) fun b e => hg3.block b (World.ownsRow.lt T4.out b e).2 (fun e2 => (G5.out b e).1 e2.symm)
  have S6c : Hid _ := own_stay S6b.out (w' := w3) fun b e => hg3.block b (World.ownsRow.lt S6b.out b e).2 (fun e2 => own_ne S5b.out S6b.out tne.2.2 b e2.symm e)
  have hX3 : Holds w3 w.heap.size 31 #[.slice a0 p.rs.length k0, .int .i64 p.pol, .int .i64 p.win, .int .i64 p.last, .slice a4 p.goes.length k4, .slice a5 p.waits.length k5, .slice a6 p.told.length k6] := (hg3.block _ (by omega) (fun e => hN.2.2.2.1 e.symm)).trans HX2.out
  have HX3 : Hid _ := hX3
  have HB3 : Hid _ := HB2.out.trans ((Below.refl base w2).grown hg3 (Nat.le_trans hbase HB2.out.size) (fun b e => (World.ownsRow.lt S5b.out b e).1))
  have hsz3 : w2.heap.size ≤ w3.heap.size := hg3.size
  have HG3 : Hid _ := hg3
  have T5 : Hid _ := t5
  clear hX3 hg3 t5 c4 c5 c6
  obtain ⟨_, _, _, _, c4, c5, c6, _⟩ := sevenOf HX3.out
  go_wp2_with fail
  refine (M6.out _ S6c.out).mono ?_
  rintro e w4 ⟨rfl, t6, hg4⟩
  have G1d : Hid _ := gathV_stay G1c.out (w' := w4) (fun b e => hg4.block b (World.ownsRow.lt G1c.out.2.1 b e).2 (fun e2 => own_ne S6c.out G1c.out.2.1 (fun h => tne.2.1 h.symm) b e2.symm e)) (fun i hi b e => hg4.block b (World.ownsRow.lt (G1c.out.2.2.1 i (by have := G1c.out.1; omega)).1 b e).2 (fun e2 => own_ne S6c.out (G1c.out.2.2.1 i (by have := G1c.out.1; omega)).1 (fun h => tne.2.2 h.symm) b e2.symm e))
  have T4c : Hid _ := own_stay T4b.out (w' := w4) fun b e => hg4.block b (World.ownsRow.lt T4b.out b e).2 (fun e2 => own_ne S6c.out T4b.out (fun h => tne.2.2 h.symm) b e2.symm e)
  have T5b : Hid _ := own_stay T5.out (w' := w4) fun b e => hg4.block b (World.ownsRow.lt T5.out b e).2 (fun e2 => own_ne S6c.out T5.out (fun h => tne.2.2 h.symm) b e2.symm e)
  have HB4 : Hid _ := HB3.out.trans ((Below.refl base w3).grown hg4 (Nat.le_trans hbase HB3.out.size) (fun b e => (World.ownsRow.lt S6c.out b e).1))
  have HG4 : Hid _ := hg4
  have T6 : Hid _ := t6
  clear hg4 t6 c4 c5 c6
  go_wp2_with fail
  go_ret
  refine ⟨rfl, ⟨G1d.out, ⟨?_, good_mN K1⟩, ⟨?_, good_mN K2⟩, ⟨?_, good_mT K3⟩, G5.out, G6.out⟩, HB4.out, fun b hb n0 nv n4 n5 n6 => ?_⟩
  · show w4.ownsRow base 3 1 _ (Cal.mN (pE1 p k) p.goes.length).length _
    rw [Cal.mN_len]; exact T4c.out
  · show w4.ownsRow base 3 1 _ (Cal.mN (pE2 p k) p.waits.length).length _
    rw [Cal.mN_len]; exact T5b.out
  · show w4.ownsRow base 61 2 _ (mT (pE3 p k) p.told.length).length _
    rw [mT_len]; exact T6.out
  · rw [HG4.out.block b (by omega) (fun e => n6 e.symm), HG3.out.block b (by omega) (fun e => n5 e.symm), HG2.out.block b (by omega) (fun e => n4 e.symm)]
    exact HFR1.out b hb n0 nv
end Pl
end Go.Proofs.YtghocdiddolinaaGreatDoor
