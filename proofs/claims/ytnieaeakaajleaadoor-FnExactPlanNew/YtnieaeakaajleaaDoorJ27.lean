/- The law of PlanNew: both answer the same plan, and what one gave out is its own. -/
import Derived.Test.YtnieaeakaajleaaDoorJ25
import Derived.Test.YtnieaeakaajleaaDoorJ26
import Derived.Test.YtnieaeakaajleaaDoorJ5
namespace Go.Proofs.YtnieaeakaajleaaDoor
set_option linter.unusedVariables false
set_option linter.unusedSimpArgs false
open Go.RowKit Go
namespace Pl

theorem mEnd_bd' {B : Nat} : ∀ (es : List Rul) (k : Nat), (∀ i (h : i < es.length), es[i].but.length ≤ B) → Cal.mEnd es k ≤ k + (4 + B) * es.length := by
  intro es
  induction es with
  | nil => intro k _; simp [Cal.mEnd]
  | cons e t ih =>
    intro k h
    have h1 := ih (k + 4 + e.but.length) (fun i hi => h (i + 1) (by simpa using hi))
    have h2 := h 0 (by simp)
    simp only [List.getElem_cons_zero] at h2
    rw [Cal.mEnd, List.length_cons, Nat.mul_add]
    omega
theorem newPla_lists (rs : List Rul) (pol win from_ : Int) : (newPla rs pol win from_).goes = [] ∧ (newPla rs pol win from_).waits = [] ∧ (newPla rs pol win from_).told = [] := by
  unfold newPla noPla; split <;> exact ⟨rfl, rfl, rfl⟩
theorem newPla_end (rs : List Rul) (pol win from_ : Int) : pE4 (newPla rs pol win from_) 1 ≤ 1000 := by
  unfold newPla
  split
  · rename_i h
    have hok := (planOk_ok h).rules
    simp only at hok
    have hr := calOk_rules hok
    have h4 : rs.length ≤ 4 := by
      have := calOk_all (rs := rs) (fun i hi => ruleOk_yes (hr i hi))
      rw [hok] at this
      have := of_decide_eq_true this.symm
      omega
    have := mEnd_bd' (B := 8) rs 1 (fun i hi => (hr i hi).2.2.2.2.1)
    simp only [pE4, pE3, pE2, pE1, List.length_nil]
    omega
  · simp [pE4, pE3, pE2, pE1, noPla, Cal.mEnd]
theorem GathPV.stayUp {w w' : World} {base : Nat} {v0 : Value} {vs : List Value} {v4 v5 v6 : Value} {p : Pla} (h : GathPV w base v0 vs v4 v5 v6 p) (hk : ∀ b, base ≤ b → b < w.heap.size → w'.heap[b]? = w.heap[b]?) : GathPV w' base v0 vs v4 v5 v6 p := by
  obtain ⟨h1, h2, h3, h4, h5⟩ := h
  have st : ∀ {n : Nat} {t : TypeId} {size : Nat} {v : Value} {xs : List Value}, w.ownsRow base t size v n xs → w'.ownsRow base t size v n xs := fun ho => own_stay ho fun b e => hk b (World.ownsRow.lt ho b e).1 (World.ownsRow.lt ho b e).2
  exact ⟨⟨h1.1, st h1.2.1, fun i hi => ⟨st (h1.2.2.1 i hi).1, (h1.2.2.1 i hi).2⟩, h1.2.2.2⟩, ⟨st h2.1, h2.2⟩, ⟨st h3.1, h3.2⟩, ⟨st h4.1, h4.2⟩, h5⟩
/-- What a gathered plan reads as, its values as they stand. -/
theorem GathPV.reads {w : World} {base : Nat} {a0 : Option Addr} {n0 k0 : Nat} {vs : List Value} {a4 : Option Addr} {n4 k4 : Nat} {a5 : Option Addr} {n5 k5 : Nat} {a6 : Option Addr} {n6 k6 : Nat} {p : Pla} (h : GathPV w base (.slice a0 n0 k0) vs (.slice a4 n4 k4) (.slice a5 n5 k5) (.slice a6 n6 k6) p) : IsPla w a0 n0 k0 a4 n4 k4 a5 n5 k5 a6 n6 k6 p := by
  obtain ⟨ra, rc, ga, gc, wa, wc, ta, tc, e0, e1, e2, e3, hp⟩ := h.gath.pla
  simp only [Value.slice.injEq] at e0 e1 e2 e3
  obtain ⟨rfl, rfl, rfl⟩ := e0
  obtain ⟨rfl, rfl, rfl⟩ := e1
  obtain ⟨rfl, rfl, rfl⟩ := e2
  obtain ⟨rfl, rfl, rfl⟩ := e3
  exact hp

set_option maxRecDepth 4000 in
set_option maxHeartbeats 4000000 in
theorem lawPlanNew (a : Option Addr) (len cap : Nat) (rs : List Rul) (pol win from_ : Int) (w : World) (hr : IsRuls w a len cap rs) (hE : ErrT w) :
    Calls Tryd.prog 3 #[.slice a len cap, .int .i64 pol, .int .i64 win, .int .i64 from_] w fun e w' => e = .returned (.bool true) ∧ Below w.heap.size w w' := by
  obtain ⟨hz, hm⟩ := IsRecs.len hr
  have HR : Hid (IsRuls w a len cap rs) := hr
  have HE : Hid (ErrT w) := hE
  clear hr hE
  have SZ : Hid (Calls Tryd.prog 5 #[.slice a len cap, .int .i64 1048576] w fun e w' => (∃ r : Int, e = .returned (.int .i64 r) ∧ -1 ≤ r ∧ r ≤ 1048576 ∧ (0 ≤ r → len ≤ 1048576 ∧ ∀ i (h : i < rs.length), rulSmall rs[i])) ∧ Below w.heap.size w w') := szCalRuleS a len cap rs w HR.out
  have SM : Hid ((len ≤ 1048576 ∧ ∀ i (h : i < rs.length), rulSmall rs[i]) → (∀ w', Below w.heap.size w w' → Calls Tryd.prog 7 #[.slice a len cap] w' fun e w'' => e = .returned (.slice (some ⟨w'.heap.size, 0, none⟩) len len) ∧ IsRuls w'' (some ⟨w'.heap.size, 0, none⟩) len len rs ∧ Below w'.heap.size w' w'') ∧
      (∀ w', Below w.heap.size w w' → Calls Tryd.prog 7 #[.slice a len cap] w' fun e w'' => e = .returned (.slice (some ⟨w'.heap.size, 0, none⟩) len len) ∧ (∃ vs, Cal.GathV w'' w'.heap.size (.slice (some ⟨w'.heap.size, 0, none⟩) len len) vs rs) ∧ Below w'.heap.size w' w'') ∧ Cal.mEnd rs 1 ≤ 9000000000000) := fun h =>
    ⟨fun w' hb => toCalRuleS a len cap rs w' (HR.out.below hb) h.1 h.2, fun w' hb => Cal.toCalRuleSG a len cap rs w' (HR.out.below hb) h.1 h.2, by
      have h1 := mEnd_bd' (B := 1048576) rs 1 (fun i hi => h.2 i hi)
      have h2 : (4 + 1048576) * rs.length ≤ (4 + 1048576) * 1048576 := Nat.mul_le_mul_left _ (by omega)
      omega⟩
  obtain ⟨hl1, hl2, hl3⟩ := newPla_lists rs pol win from_
  have SP : Hid (∀ b w', len ≤ 1048576 → (∀ i (h : i < rs.length), rulSmall rs[i]) → IsRuls w' (some ⟨b, 0, none⟩) len len rs → Calls Tryd.prog 6 #[.slice (some ⟨b, 0, none⟩) len len, .int .i64 pol, .int .i64 win, .int .i64 from_] w' fun e w'' => (∃ ra rc ga gc wa wk ta tc, e = .returned (.tuple #[.agg #[.slice ra (newPla rs pol win from_).rs.length rc, .int .i64 (newPla rs pol win from_).pol, .int .i64 (newPla rs pol win from_).win, .int .i64 (newPla rs pol win from_).last, .slice ga 0 gc, .slice wa 0 wk, .slice ta 0 tc], .bool (newOk rs pol win from_)]) ∧ IsPla w'' ra (newPla rs pol win from_).rs.length rc ga 0 gc wa 0 wk ta 0 tc (newPla rs pol win from_)) ∧ Below w'.heap.size w' w'') := fun b w' h1 h2 h => specPlanNew _ len len rs pol win from_ w' h h1 h2
  have IP : Hid (∀ b w', len ≤ 1048576 → (∀ i (h : i < rs.length), rulSmall rs[i]) → Below w.heap.size w w' → IsRuls w' (some ⟨b, 0, none⟩) len len rs → Calls Tryd.prog 8 #[.slice (some ⟨b, 0, none⟩) len len, .int .i64 pol, .int .i64 win, .int .i64 from_] w' fun e w'' => (∃ a0 k0 vs a4 k4 a5 k5 a6 k6, e = .returned (.tuple #[.agg #[.slice a0 (newPla rs pol win from_).rs.length k0, .int .i64 (newPla rs pol win from_).pol, .int .i64 (newPla rs pol win from_).win, .int .i64 (newPla rs pol win from_).last, .slice a4 0 k4, .slice a5 0 k5, .slice a6 0 k6], .bool (newOk rs pol win from_)]) ∧ GathPV w'' w'.heap.size (.slice a0 (newPla rs pol win from_).rs.length k0) vs (.slice a4 0 k4) (.slice a5 0 k5) (.slice a6 0 k6) (newPla rs pol win from_)) ∧ Below w'.heap.size w' w'') := fun b w' h1 h2 hb h => (implPlanNew _ len len rs pol win from_ w' h (HE.out.below hb) h1 h2).mono fun e w'' ⟨⟨v0, vs, v4, v5, v6, he, hG⟩, hb2⟩ => by
    obtain ⟨a0, k0, rfl⟩ := own_form hG.1.2.1
    obtain ⟨a4, k4, rfl⟩ := own_form hG.2.1.1
    obtain ⟨a5, k5, rfl⟩ := own_form hG.2.2.1.1
    obtain ⟨a6, k6, rfl⟩ := own_form hG.2.2.2.1.1
    simp only [hl1, hl2, hl3, List.length_nil] at he hG
    exact ⟨⟨a0, k0, vs, a4, k4, a5, k5, a6, k6, he, hG⟩, hb2⟩
  have hend := newPla_end rs pol win from_
  generalize newPla rs pol win from_ = NP at SP IP hend hl1 hl2 hl3
  generalize newOk rs pol win from_ = bb at SP IP
  have EQ : Hid (∀ ra rc ga gc wa wk ta tc ra' rc' ga' gc' wa' wk' ta' tc' w', IsPla w' ra NP.rs.length rc ga 0 gc wa 0 wk ta 0 tc NP → IsPla w' ra' NP.rs.length rc' ga' 0 gc' wa' 0 wk' ta' 0 tc' NP → Calls Tryd.prog 9 #[.agg #[.slice ra NP.rs.length rc, .int .i64 NP.pol, .int .i64 NP.win, .int .i64 NP.last, .slice ga 0 gc, .slice wa 0 wk, .slice ta 0 tc], .agg #[.slice ra' NP.rs.length rc', .int .i64 NP.pol, .int .i64 NP.win, .int .i64 NP.last, .slice ga' 0 gc', .slice wa' 0 wk', .slice ta' 0 tc']] w' fun e w'' => e = .returned (.bool true) ∧ Below w'.heap.size w' w'') := fun ra rc ga gc wa wk ta tc ra' rc' ga' gc' wa' wk' ta' tc' w' h1 h2 => eqPlan _ _ _ _ _ _ _ _ _ _ _ _ _ _ _ _ _ _ _ _ NP w' h1 h2
  have HD : Hid (∀ ra rc ga gc wa wk ta tc x1 x2 x3 w', IsPla w' ra NP.rs.length rc ga 0 gc wa 0 wk ta 0 tc (mP NP 1) → Calls Tryd.prog 13 #[.agg #[.slice ra NP.rs.length rc, x1, x2, x3, .slice ga 0 gc, .slice wa 0 wk, .slice ta 0 tc], .int .i64 1] w' fun e w'' => e = .returned (.int .i64 ((pE4 NP 1 : Nat) : Int)) ∧ Below w'.heap.size w' w'') := fun ra rc ga gc wa wk ta tc x1 x2 x3 w' h => heldPlan ra _ rc ga 0 gc wa 0 wk ta 0 tc x1 x2 x3 NP 1 w' h (Nat.le_refl _) (by omega)
  have MK : Hid (∀ v0 vs v4 v5 v6 base w', GathPV w' base v0 vs v4 v5 v6 NP → base ≤ w'.heap.size → Calls Tryd.prog 12 #[.agg #[v0, .int .i64 NP.pol, .int .i64 NP.win, .int .i64 NP.last, v4, v5, v6], .int .i64 1] w' fun e w'' => e = .returned (.int .i64 ((pE4 NP 1 : Nat) : Int)) ∧ GathPV w'' base v0 vs v4 v5 v6 (mP NP 1) ∧ Below base w' w'' ∧
      ∀ b, b < w'.heap.size → v0.ownBlock ≠ some b → (∀ i (hi : i < vs.length), vs[i].ownBlock ≠ some b) → v4.ownBlock ≠ some b → v5.ownBlock ≠ some b → v6.ownBlock ≠ some b → w''.heap[b]? = w'.heap[b]?) := fun v0 vs v4 v5 v6 base w' h hb => markPlan v0 vs v4 v5 v6 base 1 NP w' h (Nat.le_refl _) (by omega) hb
  have MX : Hid (∀ v vs base w', Cal.mEnd rs 1 ≤ 9000000000000 → Cal.GathV w' base v vs rs → base ≤ w'.heap.size → Calls Tryd.prog 11 #[v, .int .i64 1] w' fun e w'' => e = .returned (.int .i64 ((Cal.mEnd rs 1 : Nat) : Int)) ∧ Cal.GathV w'' base v vs (Cal.mEs rs 1) ∧ Below base w' w'' ∧ Cal.Else v vs w' w'') := fun v vs base w' hk h hb => Cal.markCalRuleV v vs base 1 rs w' h (Nat.le_refl _) (by omega) hb
  generalize pE4 NP 1 = pe at HD MK hend
  have hpe : (pe : Int) ≤ 1000 := by omega
  go_enter Tryd.func3, Tryd.ntmps3
  go_wp2_with fail
  refine Calls.mono SZ.out ?_
  rintro e w1 ⟨⟨r, rfl, hr1, hr2, hr3⟩, hb1⟩
  have HB1 : Hid _ := hb1
  clear hb1
  by_cases h0 : r < 0
  · go_wp2_with fail
    go_ret
    exact ⟨rfl, HB1.out⟩
  have hsm := hr3 (by omega)
  obtain ⟨to1, to2, hme⟩ := SM.out hsm
  have TO : Hid _ := to1
  have TG : Hid _ := to2
  have HSM : Hid _ := hsm
  have HME : Hid _ := hme
  clear hr3 hsm to1 to2 hme SM SZ
  go_wp2_with fail
  refine (TO.out _ HB1.out).mono ?_
  rintro e w2 ⟨rfl, hn2, hb2⟩
  have HB2 : Hid _ := bcall HB1.out HB1.out.size hb2
  have HN2 : Hid _ := hn2
  clear hb2 hn2
  go_wp2_with fail
  refine (SP.out _ _ HSM.out.1 HSM.out.2 HN2.out).mono ?_
  rintro e w3 ⟨⟨ra, rc, ga, gc, wa, wk, ta, tc, rfl, hp3⟩, hb3⟩
  have HB3 : Hid _ := bcall HB2.out HB2.out.size hb3
  have HP3 : Hid _ := hp3
  clear hb3 hp3
  go_wp2_with fail
  -- w0's box
  have hx3 : Holds (w3.alloc (.cells #[.slice ra NP.rs.length rc, .int .i64 NP.pol, .int .i64 NP.win, .int .i64 NP.last, .slice ga 0 gc, .slice wa 0 wk, .slice ta 0 tc] 28)) w3.heap.size 28 #[.slice ra NP.rs.length rc, .int .i64 NP.pol, .int .i64 NP.win, .int .i64 NP.last, .slice ga 0 gc, .slice wa 0 wk, .slice ta 0 tc] := heap_alloc_new _ _
  have HX3 : Hid _ := hx3
  have HW3 : Hid _ := HB3.out.alloc HB3.out.size (.cells #[.slice ra NP.rs.length rc, .int .i64 NP.pol, .int .i64 NP.win, .int .i64 NP.last, .slice ga 0 gc, .slice wa 0 wk, .slice ta 0 tc] 28)
  have HP3a : Hid _ := IsPla.alloc HP3.out (.cells #[.slice ra NP.rs.length rc, .int .i64 NP.pol, .int .i64 NP.win, .int .i64 NP.last, .slice ga 0 gc, .slice wa 0 wk, .slice ta 0 tc] 28)
  clear hx3
  refine (TG.out _ HW3.out).mono ?_
  rintro e w4 ⟨rfl, ⟨vx, hn4⟩, hb4⟩
  have hn4' : Cal.GathV w4 (w3.heap.size + 1) (.slice (some ⟨w3.heap.size + 1, 0, none⟩) len len) vx rs := by simpa using hn4
  have HXL : Hid (((Value.slice (some ⟨w3.heap.size + 1, 0, none⟩) len len)).ownBlock = some (w3.heap.size + 1) ∧ w3.heap.size + 1 < w4.heap.size ∧ ∀ i (hi : i < vx.length) b, vx[i].ownBlock = some b → b < w4.heap.size) := ⟨rfl, (World.ownsRow.lt hn4'.2.1 _ rfl).2, fun i hi b e => (World.ownsRow.lt (hn4'.2.2.1 i (by have := hn4'.1; omega)).1 b e).2⟩
  have HN4 : Hid _ := hn4'
  have HB4 : Hid _ := bcall HW3.out HW3.out.size hb4
  have hb4' : Below (w3.heap.size + 1) (w3.alloc (.cells #[.slice ra NP.rs.length rc, .int .i64 NP.pol, .int .i64 NP.win, .int .i64 NP.last, .slice ga 0 gc, .slice wa 0 wk, .slice ta 0 tc] 28)) w4 := by simpa using hb4
  have HC4 : Hid _ := hb4'
  clear hn4 hn4' hb4 hb4'
  have hru4 := Cal.gath_ruls (Cal.GathV.gath HN4.out)
  obtain ⟨ax, cx, ex, hru4⟩ := hru4
  rw [hz] at ex hru4
  simp only [Value.slice.injEq, true_and] at ex
  obtain ⟨rfl, rfl⟩ := ex
  have HRU4 : Hid _ := hru4
  clear hru4
  go_wp2_with fail
  refine (IP.out _ _ HSM.out.1 HSM.out.2 HB4.out HRU4.out).mono ?_
  rintro e w5 ⟨⟨a0, k0, vg, a4, k4, a5, k5, a6, k6, rfl, hG5⟩, hb5⟩
  have HGL : Hid (∀ b, w5.heap.size ≤ b → (Value.slice a0 NP.rs.length k0).ownBlock ≠ some b ∧ (∀ i (hi : i < vg.length), vg[i].ownBlock ≠ some b) ∧ (Value.slice a4 0 k4).ownBlock ≠ some b ∧ (Value.slice a5 0 k5).ownBlock ≠ some b ∧ (Value.slice a6 0 k6).ownBlock ≠ some b) := fun b hb =>
    ⟨fun e => by have := (World.ownsRow.lt hG5.1.2.1 b e).2; omega, fun i hi e => by have := (World.ownsRow.lt (hG5.1.2.2.1 i (by have := hG5.1.1; omega)).1 b e).2; omega, fun e => by have := (World.ownsRow.lt hG5.2.1.1 b e).2; omega, fun e => by have := (World.ownsRow.lt hG5.2.2.1.1 b e).2; omega, fun e => by have := (World.ownsRow.lt hG5.2.2.2.1.1 b e).2; omega⟩
  have HB5 : Hid _ := bcall HB4.out HB4.out.size hb5
  have hs5 : w4.heap.size ≤ w5.heap.size := hb5.size
  have HG5 : Hid _ := GathPV.same hG5 (SameP.below (al_below w5 (.cells #[.slice a0 NP.rs.length k0, .int .i64 NP.pol, .int .i64 NP.win, .int .i64 NP.last, .slice a4 0 k4, .slice a5 0 k5, .slice a6 0 k6] 28)))
  have HN5 : Hid _ := gathV_stay HN4.out (w' := w5.alloc (.cells #[.slice a0 NP.rs.length k0, .int .i64 NP.pol, .int .i64 NP.win, .int .i64 NP.last, .slice a4 0 k4, .slice a5 0 k5, .slice a6 0 k6] 28)) (fun b e => (Below.heap_alloc _ _ _ (by have := HXL.out.2.1; rw [HXL.out.1] at e; cases e; omega)).trans (hb5.block b (by have := HXL.out.2.1; rw [HXL.out.1] at e; cases e; omega))) (fun i hi b e => (Below.heap_alloc _ _ _ (by have := HXL.out.2.2 i hi b e; omega)).trans (hb5.block b (HXL.out.2.2 i hi b e)))
  have HC5 : Hid _ := (bcall HC4.out (by have := HXL.out.2.1; omega) hb5).alloc (by have := HXL.out.2.1; omega) (.cells #[.slice a0 NP.rs.length k0, .int .i64 NP.pol, .int .i64 NP.win, .int .i64 NP.last, .slice a4 0 k4, .slice a5 0 k5, .slice a6 0 k6] 28)
  have hx5 : Holds (w5.alloc (.cells #[.slice a0 NP.rs.length k0, .int .i64 NP.pol, .int .i64 NP.win, .int .i64 NP.last, .slice a4 0 k4, .slice a5 0 k5, .slice a6 0 k6] 28)) w5.heap.size 28 #[.slice a0 NP.rs.length k0, .int .i64 NP.pol, .int .i64 NP.win, .int .i64 NP.last, .slice a4 0 k4, .slice a5 0 k5, .slice a6 0 k6] := heap_alloc_new _ _
  have HX5 : Hid _ := hx5
  have HW5 : Hid _ := HB5.out.alloc HB5.out.size (.cells #[.slice a0 NP.rs.length k0, .int .i64 NP.pol, .int .i64 NP.win, .int .i64 NP.last, .slice a4 0 k4, .slice a5 0 k5, .slice a6 0 k6] 28)
  clear hG5 hb5 hx5
  have hB0 : ∀ W, Below (w3.heap.size + 1) (w3.alloc (.cells #[.slice ra NP.rs.length rc, .int .i64 NP.pol, .int .i64 NP.win, .int .i64 NP.last, .slice ga 0 gc, .slice wa 0 wk, .slice ta 0 tc] 28)) W → Holds W w3.heap.size 28 #[.slice ra NP.rs.length rc, .int .i64 NP.pol, .int .i64 NP.win, .int .i64 NP.last, .slice ga 0 gc, .slice wa 0 wk, .slice ta 0 tc] ∧ IsPla W ra NP.rs.length rc ga 0 gc wa 0 wk ta 0 tc NP := fun W h => ⟨(h.block _ (by omega)).trans HX3.out, IsPla.below HP3a.out (by simpa using h)⟩
  have HB0 : Hid _ := hB0
  clear hB0
  obtain ⟨x0, x1, x2, x3, x4, x5, x6, xf⟩ := sevenOf (HB0.out _ HC5.out).1
  go_wp2_with fail
  refine (EQ.out _ _ _ _ _ _ _ _ _ _ _ _ _ _ _ _ _ (GathPV.reads HG5.out) (HB0.out _ HC5.out).2).mono ?_
  rintro e w6 ⟨rfl, hb6⟩
  have HG6 : Hid _ := GathPV.same HG5.out (SameP.below hb6)
  have HN6 : Hid _ := GathV_same HN5.out (SameP.below hb6).toT
  have HX6 : Hid _ := Holds.below HX5.out hb6
  have HC6 : Hid _ := bcall HC5.out (by have := HC5.out.size; simpa using this) hb6
  have HB6 : Hid _ := bcall HW5.out HW5.out.size hb6
  have hs6 : w5.heap.size + 1 ≤ w6.heap.size := by have := hb6.size; simpa using this
  clear hb6 x0 x1 x2 x3 x4 x5 x6 xf
  cases hbb : bb
  all_goals
    go_wp2_with fail
    refine (TO.out _ HB6.out).mono ?_
    rintro e w7 ⟨rfl, hn7, hb7⟩
    have HN7 : Hid _ := hn7
    have HG7 : Hid _ := GathPV.same HG6.out (SameP.below hb7)
    have HNX7 : Hid _ := GathV_same HN6.out (SameP.below hb7).toT
    have HX7 : Hid _ := Holds.below HX6.out hb7
    have HC7 : Hid _ := bcall HC6.out (by have := HC6.out.size; simpa using this) hb7
    have HB7 : Hid _ := bcall HB6.out HB6.out.size hb7
    have hs7 : w6.heap.size ≤ w7.heap.size := hb7.size
    clear hb7 hn7
    have hru7 := Cal.gath_ruls (Cal.GathV.gath HNX7.out)
    obtain ⟨ax, cx, ex, hru7⟩ := hru7
    rw [hz] at ex hru7
    simp only [Value.slice.injEq, true_and] at ex
    obtain ⟨rfl, rfl⟩ := ex
    have HRU7 : Hid _ := hru7
    clear hru7
    go_wp2_with fail
    refine (eqCalRuleS _ _ len len len rs _ HRU7.out HN7.out).mono ?_
    rintro e w8 ⟨rfl, hb8⟩
    have HG8 : Hid _ := GathPV.same HG7.out (SameP.below hb8)
    have HNX8 : Hid _ := GathV_same HNX7.out (SameP.below hb8).toT
    have HX8 : Hid _ := Holds.below HX7.out hb8
    have HC8 : Hid _ := bcall HC7.out (by have := HC7.out.size; simpa using this) hb8
    have HB8 : Hid _ := bcall HB7.out HB7.out.size hb8
    have hs8 : w7.heap.size ≤ w8.heap.size := hb8.size
    clear hb8
    go_wp2_with fail
    refine (MX.out _ vx (w3.heap.size + 1) _ HME.out HNX8.out (by have := HXL.out.2.1; omega)).mono ?_
    rintro e w9 ⟨rfl, hn9, hb9, he9⟩
    have hm1 : (0 : Int) ≤ ((Cal.mEnd rs 1 : Nat) : Int) := by omega
    have hm2 : ((Cal.mEnd rs 1 : Nat) : Int) ≤ 9000000000000 := by have := HME.out; omega
    generalize Cal.mEnd rs 1 = mx at hm1 hm2
    have hup : ∀ b, w4.heap.size ≤ b → b < w8.heap.size → w9.heap[b]? = w8.heap[b]? := fun b h1 h2 => he9.2 b h2 (fun e => by rw [HXL.out.1] at e; cases e; have := HXL.out.2.1; omega) (fun i hi e => by have := HXL.out.2.2 i hi b e; omega)
    have HG9 : Hid _ := GathPV.stayUp HG8.out (w' := w9) hup
    have hx9 : Holds w9 w5.heap.size 28 #[.slice a0 NP.rs.length k0, .int .i64 NP.pol, .int .i64 NP.win, .int .i64 NP.last, .slice a4 0 k4, .slice a5 0 k5, .slice a6 0 k6] := (hup _ hs5 (by omega)).trans HX8.out
    have HX9 : Hid _ := hx9
    have HC9 : Hid _ := HC8.out.trans hb9
    have HB9 : Hid _ := HB8.out.trans (hb9.mono (by have := HB3.out.size; omega))
    have hs9 : w8.heap.size ≤ w9.heap.size := hb9.size
    clear hn9 hb9 he9 hup hx9
    obtain ⟨x0, x1, x2, x3, x4, x5, x6, xf⟩ := sevenOf (HB0.out _ HC9.out).1
    obtain ⟨y0, y1, y2, y3, y4, y5, y6, yf⟩ := sevenOf HX9.out
    go_wp2_with fail
    refine (EQ.out _ _ _ _ _ _ _ _ _ _ _ _ _ _ _ _ _ (GathPV.reads HG9.out) (HB0.out _ HC9.out).2).mono ?_
    rintro e w10 ⟨rfl, hb10⟩
    have HG10 : Hid _ := GathPV.same HG9.out (SameP.below hb10)
    have HX10 : Hid _ := Holds.below HX9.out hb10
    have HC10 : Hid _ := bcall HC9.out (by have := HC9.out.size; simpa using this) hb10
    have HB10 : Hid _ := bcall HB9.out HB9.out.size hb10
    have hs10 : w9.heap.size ≤ w10.heap.size := hb10.size
    clear hb10 x0 x1 x2 x3 x4 x5 x6 xf y0 y1 y2 y3 y4 y5 y6 yf
    obtain ⟨y0, y1, y2, y3, y4, y5, y6, yf⟩ := sevenOf HX10.out
    go_wp2_with fail
    refine (MK.out _ vg _ _ _ w4.heap.size _ HG10.out (by omega)).mono ?_
    rintro e w11 ⟨rfl, hG11, hb11, hf11⟩
    have hx11 : Holds w11 w5.heap.size 28 #[.slice a0 NP.rs.length k0, .int .i64 NP.pol, .int .i64 NP.win, .int .i64 NP.last, .slice a4 0 k4, .slice a5 0 k5, .slice a6 0 k6] := (hf11 _ (by omega) (HGL.out _ (Nat.le_refl _)).1 (HGL.out _ (Nat.le_refl _)).2.1 (HGL.out _ (Nat.le_refl _)).2.2.1 (HGL.out _ (Nat.le_refl _)).2.2.2.1 (HGL.out _ (Nat.le_refl _)).2.2.2.2).trans HX10.out
    have HX11 : Hid _ := hx11
    have HP11 : Hid _ := GathPV.reads hG11
    have HC11 : Hid _ := HC10.out.trans (hb11.mono (by have := HXL.out.2.1; omega))
    have HB11 : Hid _ := HB10.out.trans (hb11.mono (by have := HB4.out.size; omega))
    have hs11 : w10.heap.size ≤ w11.heap.size := hb11.size
    clear hG11 hb11 hf11 hx11 y0 y1 y2 y3 y4 y5 y6 yf
    obtain ⟨y0, y1, y2, y3, y4, y5, y6, yf⟩ := sevenOf HX11.out
    go_wp2_with fail
    refine (HD.out _ _ _ _ _ _ _ _ _ _ _ _ HP11.out).mono ?_
    rintro e w12 ⟨rfl, hb12⟩
    have HP12 : Hid _ := IsPla.below HP11.out hb12
    have HX12 : Hid _ := Holds.below HX11.out hb12
    have HC12 : Hid _ := bcall HC11.out (by have := HC11.out.size; simpa using this) hb12
    have HB12 : Hid _ := bcall HB11.out HB11.out.size hb12
    have hs12 : w11.heap.size ≤ w12.heap.size := hb12.size
    clear hb12 y0 y1 y2 y3 y4 y5 y6 yf
    go_wp2_with fail
    refine (TO.out _ HB12.out).mono ?_
    rintro e w13 ⟨rfl, hn13, hb13⟩
    have HN13 : Hid _ := hn13
    have HP13 : Hid _ := IsPla.below HP12.out hb13
    have HX13 : Hid _ := Holds.below HX12.out hb13
    have HC13 : Hid _ := bcall HC12.out (by have := HC12.out.size; simpa using this) hb13
    have HB13 : Hid _ := bcall HB12.out HB12.out.size hb13
    have hs13 : w12.heap.size ≤ w13.heap.size := hb13.size
    clear hb13 hn13
    go_wp2_with fail
    refine (IP.out _ _ HSM.out.1 HSM.out.2 HB13.out HN13.out).mono ?_
    rintro e w14 ⟨⟨b0, m0, vh, b4, m4, b5, m5, b6, m6, rfl, hG14⟩, hb14⟩
    have HPH : Hid _ := IsPla.alloc (GathPV.reads hG14) (.cells #[.slice b0 NP.rs.length m0, .int .i64 NP.pol, .int .i64 NP.win, .int .i64 NP.last, .slice b4 0 m4, .slice b5 0 m5, .slice b6 0 m6] 28)
    have HP14 : Hid _ := IsPla.alloc (IsPla.below HP13.out hb14) (.cells #[.slice b0 NP.rs.length m0, .int .i64 NP.pol, .int .i64 NP.win, .int .i64 NP.last, .slice b4 0 m4, .slice b5 0 m5, .slice b6 0 m6] 28)
    have HX14 : Hid _ := Holds.below (Holds.below HX13.out hb14) (al_below w14 (.cells #[.slice b0 NP.rs.length m0, .int .i64 NP.pol, .int .i64 NP.win, .int .i64 NP.last, .slice b4 0 m4, .slice b5 0 m5, .slice b6 0 m6] 28))
    have HC14 : Hid _ := (bcall HC13.out (by have := HC13.out.size; simpa using this) hb14).alloc (by have := HXL.out.2.1; have := hb14.size; omega) (.cells #[.slice b0 NP.rs.length m0, .int .i64 NP.pol, .int .i64 NP.win, .int .i64 NP.last, .slice b4 0 m4, .slice b5 0 m5, .slice b6 0 m6] 28)
    have HB14 : Hid _ := (bcall HB13.out HB13.out.size hb14).alloc (by have := HB13.out.size; have := hb14.size; omega) (.cells #[.slice b0 NP.rs.length m0, .int .i64 NP.pol, .int .i64 NP.win, .int .i64 NP.last, .slice b4 0 m4, .slice b5 0 m5, .slice b6 0 m6] 28)
    clear hb14 hG14
    obtain ⟨x0, x1, x2, x3, x4, x5, x6, xf⟩ := sevenOf (HB0.out _ HC14.out).1
    go_wp2_with fail
    refine (EQ.out _ _ _ _ _ _ _ _ _ _ _ _ _ _ _ _ _ HPH.out (HB0.out _ HC14.out).2).mono ?_
    rintro e w15 ⟨rfl, hb15⟩
    have HP15 : Hid _ := IsPla.below HP14.out hb15
    have HX15 : Hid _ := Holds.below HX14.out hb15
    have HB15 : Hid _ := bcall HB14.out HB14.out.size hb15
    clear hb15 x0 x1 x2 x3 x4 x5 x6 xf
    obtain ⟨y0, y1, y2, y3, y4, y5, y6, yf⟩ := sevenOf HX15.out
    go_wp2_with fail
    refine (HD.out _ _ _ _ _ _ _ _ _ _ _ _ HP15.out).mono ?_
    rintro e w16 ⟨rfl, hb16⟩
    have HB16 : Hid _ := bcall HB15.out HB15.out.size hb16
    clear hb16 y0 y1 y2 y3 y4 y5 y6 yf
    go_wp2_with fail
    go_ret
    exact ⟨rfl, HB16.out⟩
end Pl
end Go.Proofs.YtnieaeakaajleaaDoor
