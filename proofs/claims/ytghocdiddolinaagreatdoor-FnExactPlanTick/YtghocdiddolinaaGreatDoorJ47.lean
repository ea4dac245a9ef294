/- The law of PlanTick: both answer the same plan and tell the same, and what one gave out is its own. -/
import Derived.Test.YtghocdiddolinaaGreatDoorJ29
import Derived.Test.YtghocdiddolinaaGreatDoorJ45
import Derived.Test.YtghocdiddolinaaGreatDoorJ7
import Derived.Test.YtghocdiddolinaaGreatDoorJ46
import Derived.Deep.RegionWith
namespace Go.Proofs.YtghocdiddolinaaGreatDoor
set_option linter.unusedVariables false
set_option linter.unusedSimpArgs false
open Go.RowKit Go
namespace Pl

/-- .. and a list of what is told, apart from it. -/
def Gw (W : World) (N base : Nat) (v0 : Value) (vs : List Value) (v4 v5 v6 vo : Value) (p : Pla) (os : List Tld) : Prop := Gv W N base v0 vs v4 v5 v6 p ∧ W.ownsRow base 61 2 vo os.length (flatT os) ∧ Goods os ∧ ∀ b, v6.ownBlock = some b → vo.ownBlock ≠ some b
theorem Gw.below {W W' : World} {N base : Nat} {v0 : Value} {vs : List Value} {v4 v5 v6 vo : Value} {p : Pla} {os : List Tld} (h : Gw W N base v0 vs v4 v5 v6 vo p os) (hb : Below W.heap.size W W') : Gw W' N base v0 vs v4 v5 v6 vo p os := ⟨h.1.below hb, own_same h.2.1 (SameP.below hb) (.inr (.inr rfl)), h.2.2⟩

theorem Gw.tlds {W : World} {N base : Nat} {v0 : Value} {vs : List Value} {v4 v5 v6 : Value} {p : Pla} {os : List Tld} {a : Option Addr} {n c : Nat} (h : Gw W N base v0 vs v4 v5 v6 (.slice a n c) p os) : IsTlds W a n c os := by
  obtain ⟨a', c', e, hr⟩ := row_told h.2.1 (fun i hi => h.2.2.1 _ (List.getElem_mem hi))
  simp only [Value.slice.injEq] at e
  obtain ⟨rfl, rfl, rfl⟩ := e
  exact hr
theorem planOk_end {p : Pla} (hp : PlanOk p) : pE4 p 1 ≤ 1000 := by
  have hr := calOk_rules hp.rules
  have h4 : p.rs.length ≤ 4 := by
    have := calOk_all (rs := p.rs) (fun i hi => ruleOk_yes (hr i hi))
    rw [hp.rules] at this
    have := of_decide_eq_true this.symm
    omega
  have h1 := mEnd_bd' (B := 8) p.rs 1 (fun i hi => (hr i hi).2.2.2.2.1)
  have h2 := hp.goesN
  have h3 := hp.waitsN
  have h5 := hp.told60
  have h6 : mostG p.pol ≤ 8 := by unfold mostG; split <;> omega
  have h7 : mostW p.pol ≤ 8 := by unfold mostW; split <;> (try split) <;> omega
  simp only [pE4, pE3, pE2, pE1]
  omega
theorem tickP_end (p : Pla) (now : Int) : pE4 (tickP p now).1 1 ≤ 1000 ∧ (tickP p now).2.length ≤ 500000 ∧ Wfs (tickP p now).1.goes = Wfs (tickP p now).1.goes := by
  unfold tickP
  split
  · rename_i hok
    have hp := planOk_ok hok
    split
    · exact ⟨planOk_end hp, by simp, rfl⟩
    · have h0 := planOk_end hp
      have hf := looksAll_fits (win := p.win) (now := now) hp.pol (ticks p.rs p.last now) (planOk_fits hp)
      have h1 := looksAll_len p.pol p.win now (ticks p.rs p.last now) p.goes p.waits
      have h2 : (ticks p.rs p.last now).length ≤ 100002 := Nat.le_trans (List.takeWhile_sublist _).length_le (dueL_lenP p.rs 100002 p.last)
      have h6 : mostG p.pol ≤ 8 := by unfold mostG; split <;> omega
      have h7 : mostW p.pol ≤ 8 := by unfold mostW; split <;> (try split) <;> omega
      have h8 := keep_len (p.told ++ (late p now).2.2)
      have h9 : Cal.mEnd p.rs 1 ≤ 1000 - 0 := by simp only [pE4, pE3, pE2, pE1] at h0; omega
      have hr := calOk_rules hp.rules
      have h4 : p.rs.length ≤ 4 := by
        have := calOk_all (rs := p.rs) (fun i hi => ruleOk_yes (hr i hi))
        rw [hp.rules] at this
        have := of_decide_eq_true this.symm
        omega
      have h10 := mEnd_bd' (B := 8) p.rs 1 (fun i hi => (hr i hi).2.2.2.2.1)
      obtain ⟨f1, f2⟩ := hf
      refine ⟨?_, by show (late p now).2.2.length ≤ _; unfold late; omega, rfl⟩
      simp only [pE4, pE3, pE2, pE1, late] at h8 ⊢
      omega
  · simp [pE4, pE3, pE2, pE1, noPlan, Cal.mEnd]
theorem plaSmall_end {p : Pla} (h : plaSmall p) : pE4 p 1 ≤ 4000000000000 := by
  obtain ⟨h1, h2, h3, h4, h5⟩ := h
  have k1 := mEnd_bd' (B := 1048576) p.rs 1 h2
  have k2 : (4 + 1048576) * p.rs.length ≤ (4 + 1048576) * 1048576 := Nat.mul_le_mul_left _ h1
  simp only [pE4, pE3, pE2, pE1]
  omega
/-- Both lists of what was told are marked: the plan's stays as it was marked. -/
theorem markGw {W W' : World} {N base : Nat} {v0 : Value} {vs : List Value} {v4 v5 v6 vo : Value} {p : Pla} {os os' : List Tld} (h : Gw W N base v0 vs v4 v5 v6 vo p os) (hN : vo.ownBlock ≠ some N) (hl : os'.length = os.length) (ho : W'.ownsRow base 61 2 vo os.length (flatT os')) (hos : Goods os') (hg : W.grownBy W' vo.ownBlock) : Gw W' N base v0 vs v4 v5 v6 vo p os' := by
  obtain ⟨⟨hx, h1, h2, h3, h4, h5, h6⟩, h7, _, h9⟩ := h
  have st : ∀ {n : Nat} {t : TypeId} {size : Nat} {v : Value} {xs : List Value}, W.ownsRow base t size v n xs → (∀ b, v.ownBlock = some b → vo.ownBlock ≠ some b) → W'.ownsRow base t size v n xs := fun hv hne => own_stay hv fun b e => hg.block b (World.ownsRow.lt hv b e).2 (fun e2 => hne b e e2.symm)
  refine ⟨⟨(hg.block N hx.lt (fun e => hN e.symm)).trans hx, ⟨h1.1, st h1.2.1 (own_ne h1.2.1 h7 tne.2.1), fun i hi => ⟨st (h1.2.2.1 i hi).1 (own_ne (h1.2.2.1 i hi).1 h7 tne.2.2), (h1.2.2.1 i hi).2⟩, h1.2.2.2⟩, ⟨st h2.1 (own_ne h2.1 h7 tne.2.2), h2.2⟩, ⟨st h3.1 (own_ne h3.1 h7 tne.2.2), h3.2⟩, ⟨st h4.1 h9, h4.2⟩, h5, h6⟩, by rw [hl]; exact ho, hos, h9⟩

theorem box_ne {W : World} {N base n size : Nat} {cur : Array Value} {t : TypeId} {v : Value} {xs : List Value} (h : Holds W N 31 cur) (ho : W.ownsRow base t size v n xs) (ht : t ≠ 31) : v.ownBlock ≠ some N := fun e => by
  obtain ⟨c1, k1⟩ := Cal.own_int_block ho e
  unfold Holds at h
  rw [h] at k1
  simp only [Option.some.injEq, Obj.cells.injEq] at k1
  exact ht k1.2.1.symm
theorem bne : (73 : TypeId) ≠ 31 ∧ (3 : TypeId) ≠ 31 ∧ (61 : TypeId) ≠ 31 := by decide
theorem Gw.up {W W' : World} {N base : Nat} {v0 : Value} {vs : List Value} {v4 v5 v6 vo : Value} {p : Pla} {os : List Tld} (h : Gw W N base v0 vs v4 v5 v6 vo p os) (hk : ∀ b, base ≤ b → b < W.heap.size → W'.heap[b]? = W.heap[b]?) (hN : base ≤ N) : Gw W' N base v0 vs v4 v5 v6 vo p os :=
  ⟨⟨(hk N hN h.1.1.lt).trans h.1.1, GathPV.stayUp h.1.2 hk⟩, own_stay h.2.1 fun b e => hk b (World.ownsRow.lt h.2.1 b e).1 (World.ownsRow.lt h.2.1 b e).2, h.2.2⟩
theorem markPlanGw {W : World} {N base : Nat} {v0 : Value} {vs : List Value} {v4 v5 v6 vo : Value} {p : Pla} {os : List Tld} (h : Gw W N base v0 vs v4 v5 v6 vo p os) (hk : pE4 p 1 ≤ 4000000000000) (hbase : base ≤ W.heap.size) :
    Calls Tryz.prog 11 #[.agg #[v0, .int .i64 p.pol, .int .i64 p.win, .int .i64 p.last, v4, v5, v6], .int .i64 1] W fun e W' => e = .returned (.int .i64 ((pE4 p 1 : Nat) : Int)) ∧ Gw W' N base v0 vs v4 v5 v6 vo (mP p 1) os ∧ Below base W W' := by
  refine (markPlan v0 vs v4 v5 v6 base 1 p W h.1.2 (Nat.le_refl _) hk hbase).mono ?_
  rintro e W' ⟨rfl, hG, hb, hf⟩
  obtain ⟨⟨hx, h1, h2, h3, h4, h5, h6⟩, h7, h8, h9⟩ := h
  refine ⟨rfl, ⟨⟨(hf N hx.lt (box_ne hx h1.2.1 bne.1) (fun i hi => box_ne hx (h1.2.2.1 i (by have := h1.1; omega)).1 bne.2.1) (box_ne hx h2.1 bne.2.1) (box_ne hx h3.1 bne.2.1) (box_ne hx h4.1 bne.2.2)).trans hx, hG⟩, own_stay h7 fun b e => hf b (World.ownsRow.lt h7 b e).2 (fun e2 => own_ne h1.2.1 h7 tne.2.1 b e2 e) (fun i hi e2 => own_ne (h1.2.2.1 i (by have := h1.1; omega)).1 h7 tne.2.2 b e2 e) (fun e2 => own_ne h2.1 h7 tne.2.2 b e2 e) (fun e2 => own_ne h3.1 h7 tne.2.2 b e2 e) (fun e2 => h9 b e2 e), h8, h9⟩, hb⟩
theorem markToldGw {W : World} {N base k : Nat} {v0 : Value} {vs : List Value} {v4 v5 v6 vo : Value} {p : Pla} {os : List Tld} (h : Gw W N base v0 vs v4 v5 v6 vo p os) (hk : k + 2 * os.length ≤ 4000000000000) (hbase : base ≤ W.heap.size) :
    Calls Tryz.prog 12 #[vo, .int .i64 k] W fun e W' => e = .returned (.int .i64 ((k + 2 * os.length : Nat) : Int)) ∧ Gw W' N base v0 vs v4 v5 v6 vo p (mT k os.length) ∧ Below base W W' := by
  refine (markTold vo base k os W h.2.1 (by omega)).mono ?_
  rintro e W' ⟨rfl, ho, hg⟩
  exact ⟨rfl, markGw h (box_ne h.1.1 h.2.1 bne.2.2) (mT_len _ _) ho (fun t ht => by obtain ⟨i, hi, rfl⟩ := List.mem_iff_getElem.1 ht; exact good_mT hk i hi) hg, (Below.refl base W).grown hg hbase (fun b e => (World.ownsRow.lt h.2.1 b e).1)⟩

theorem tickP_good (p : Pla) (now : Int) (hg : Wfs p.goes) (hw : Wfs p.waits) (ht : Goods p.told) : Wfs (tickP p now).1.goes ∧ Wfs (tickP p now).1.waits ∧ Goods (tickP p now).1.told ∧ Goods (tickP p now).2 := by
  have hwt : Wfs (ticks p.rs p.last now) := fun n hn => wf_tick (by
    have h1 := List.takeWhile_sublist (p := fun x => decide (x ≤ now)) (l := dueL p.rs 100002 p.last)
    have := dueL_bd 100002 p.last n (h1.subset hn)
    omega)
  have h := looksAll_wf (pol := p.pol) (win := p.win) (now := now) (ticks p.rs p.last now) hg hw hwt
  unfold tickP
  split
  · split
    · exact ⟨hg, hw, ht, fun x hx => nomatch hx⟩
    · exact ⟨h.1, h.2.1, goods_keep (goods_app ht h.2.2), h.2.2⟩
  · exact ⟨(fun x hx => nomatch hx), (fun x hx => nomatch hx), (fun x hx => nomatch hx), (fun x hx => nomatch hx)⟩
theorem specTickP (ra : Option Addr) (rl rc : Nat) (ga : Option Addr) (gl gc : Nat) (wa : Option Addr) (wl wk : Nat) (ta : Option Addr) (tl tc : Nat) (p : Pla) (now : Int) (w : World) (hp : IsPla w ra rl rc ga gl gc wa wl wk ta tl tc p) (hs : plaSmall p) :
    Calls Tryz.prog 6 #[.agg #[.slice ra rl rc, .int .i64 p.pol, .int .i64 p.win, .int .i64 p.last, .slice ga gl gc, .slice wa wl wk, .slice ta tl tc], .int .i64 now] w fun e w'' => (∃ sa sc sga sgc swa swk sta stc oa oc, e = .returned (.tuple #[.agg #[.slice sa (tickP p now).1.rs.length sc, .int .i64 (tickP p now).1.pol, .int .i64 (tickP p now).1.win, .int .i64 (tickP p now).1.last, .slice sga (tickP p now).1.goes.length sgc, .slice swa (tickP p now).1.waits.length swk, .slice sta (tickP p now).1.told.length stc], .slice oa (tickP p now).2.length oc]) ∧ IsPla w'' sa (tickP p now).1.rs.length sc sga (tickP p now).1.goes.length sgc swa (tickP p now).1.waits.length swk sta (tickP p now).1.told.length stc (tickP p now).1 ∧ IsTlds w'' oa (tickP p now).2.length oc (tickP p now).2) ∧ Below w.heap.size w w'' := by
  have hg := tickP_good p now (fun n hn => hp.2.1.wf n hn) (fun n hn => hp.2.2.1.wf n hn) (IsTlds.goods hp.2.2.2)
  refine (specPlanTick ra rl rc ga gl gc wa wl wk ta tl tc p now w hp hs).mono ?_
  rintro e w' ⟨⟨av, cv, vs, vg, vw, vt, vo, rfl, hG, hU⟩, hb⟩
  obtain ⟨g1, g2, g3, g4⟩ := hg
  obtain ⟨ga4, gc4, rfl⟩ := hU.goes.form
  obtain ⟨wa4, wc4, rfl⟩ := hU.waits.form
  obtain ⟨ta4, tc4, rfl⟩ := hU.told.form
  obtain ⟨oa4, oc4, rfl⟩ := hU.out.form
  exact ⟨⟨_, _, _, _, _, _, _, _, _, _, rfl, ⟨gruls hG, butO_row hU.goes g1, butO_row hU.waits g2, tO_row hU.told g3⟩, tO_row hU.out g4⟩, hb⟩
theorem implTickP (ra : Option Addr) (rl rc : Nat) (ga : Option Addr) (gl gc : Nat) (wa : Option Addr) (wl wk : Nat) (ta : Option Addr) (tl tc : Nat) (p : Pla) (now : Int) (w : World) (hp : IsPla w ra rl rc ga gl gc wa wl wk ta tl tc p) (hs : plaSmall p) (hE : ErrT w) :
    Calls Tryz.prog 8 #[.agg #[.slice ra rl rc, .int .i64 p.pol, .int .i64 p.win, .int .i64 p.last, .slice ga gl gc, .slice wa wl wk, .slice ta tl tc], .int .i64 now] w fun e w'' => (∃ a0 k0 vs a4 k4 a5 k5 a6 k6 oa oc, e = .returned (.tuple #[.agg #[.slice a0 (tickP p now).1.rs.length k0, .int .i64 (tickP p now).1.pol, .int .i64 (tickP p now).1.win, .int .i64 (tickP p now).1.last, .slice a4 (tickP p now).1.goes.length k4, .slice a5 (tickP p now).1.waits.length k5, .slice a6 (tickP p now).1.told.length k6], .slice oa (tickP p now).2.length oc]) ∧ GathPV w'' w.heap.size (.slice a0 (tickP p now).1.rs.length k0) vs (.slice a4 (tickP p now).1.goes.length k4) (.slice a5 (tickP p now).1.waits.length k5) (.slice a6 (tickP p now).1.told.length k6) (tickP p now).1 ∧ w''.ownsRow w.heap.size 61 2 (.slice oa (tickP p now).2.length oc) (tickP p now).2.length (flatT (tickP p now).2) ∧ Goods (tickP p now).2 ∧ ∀ b, (Value.slice a6 (tickP p now).1.told.length k6).ownBlock = some b → (Value.slice oa (tickP p now).2.length oc).ownBlock ≠ some b) ∧ Below w.heap.size w w'' := by
  refine (implPlanTick ra rl rc ga gl gc wa wl wk ta tl tc p now w hp hs hE).mono ?_
  rintro e w' ⟨⟨v0, vs, vg, vw, vt, vo, rfl, hG, hO, hgd, hne⟩, hb⟩
  obtain ⟨a0, k0, rfl⟩ := own_form hG.1.2.1
  obtain ⟨a4, k4, rfl⟩ := own_form hG.2.1.1
  obtain ⟨a5, k5, rfl⟩ := own_form hG.2.2.1.1
  obtain ⟨a6, k6, rfl⟩ := own_form hG.2.2.2.1.1
  obtain ⟨oa, oc, rfl⟩ := own_form hO
  exact ⟨⟨_, _, vs, _, _, _, _, _, _, _, _, rfl, hG, hO, hgd, hne⟩, hb⟩

set_option maxRecDepth 4000 in
set_option maxHeartbeats 8000000 in
theorem lawPlanTick (ra : Option Addr) (rl rc : Nat) (ga : Option Addr) (gl gc : Nat) (wa : Option Addr) (wl wk : Nat) (ta : Option Addr) (tl tc : Nat) (p : Pla) (now : Int) (w : World) (hp : IsPla w ra rl rc ga gl gc wa wl wk ta tl tc p) (hE : ErrT w) :
    Calls Tryz.prog 3 #[.agg #[.slice ra rl rc, .int .i64 p.pol, .int .i64 p.win, .int .i64 p.last, .slice ga gl gc, .slice wa wl wk, .slice ta tl tc], .int .i64 now] w fun e w' => e = .returned (.bool true) ∧ Below w.heap.size w w' := by
  have HP : Hid _ := hp
  have HE : Hid (ErrT w) := hE
  clear hp hE
  have HSZ : Hid (∀ w', Below w.heap.size w w' → Calls Tryz.prog 5 #[.agg #[.slice ra rl rc, .int .i64 p.pol, .int .i64 p.win, .int .i64 p.last, .slice ga gl gc, .slice wa wl wk, .slice ta tl tc], .int .i64 1048576] w' fun e w'' => (∃ r : Int, e = .returned (.int .i64 r) ∧ -1 ≤ r ∧ r ≤ 1048576 ∧ (0 ≤ r → plaSmall p)) ∧ Below w'.heap.size w' w'') := fun w' hb => szPlan _ _ _ _ _ _ _ _ _ _ _ _ p w' (IsPla.below HP.out hb)
  have HTO : Hid (∀ w', plaSmall p → Below w.heap.size w w' → Calls Tryz.prog 7 #[.agg #[.slice ra rl rc, .int .i64 p.pol, .int .i64 p.win, .int .i64 p.last, .slice ga gl gc, .slice wa wl wk, .slice ta tl tc]] w' fun e w'' => (∃ b0 b1 b2 b3, e = .returned (.agg #[.slice (some ⟨b0, 0, none⟩) rl rl, .int .i64 p.pol, .int .i64 p.win, .int .i64 p.last, .slice (some ⟨b1, 0, none⟩) gl gl, .slice (some ⟨b2, 0, none⟩) wl wl, .slice (some ⟨b3, 0, none⟩) tl tl]) ∧ GathP w'' w'.heap.size (.slice (some ⟨b0, 0, none⟩) rl rl) (.slice (some ⟨b1, 0, none⟩) gl gl) (.slice (some ⟨b2, 0, none⟩) wl wl) (.slice (some ⟨b3, 0, none⟩) tl tl) p ∧ IsPla w'' (some ⟨b0, 0, none⟩) rl rl (some ⟨b1, 0, none⟩) gl gl (some ⟨b2, 0, none⟩) wl wl (some ⟨b3, 0, none⟩) tl tl p) ∧ Below w'.heap.size w' w'') := fun w' hs hb => toPlanP _ _ _ _ _ _ _ _ _ _ _ _ p w' (IsPla.below HP.out hb) hs
  have HEND : Hid (pE4 (tickP p now).1 1 ≤ 1000 ∧ (tickP p now).2.length ≤ 500000) := ⟨(tickP_end p now).1, (tickP_end p now).2.1⟩
  have HS : Hid (∀ b0 b1 b2 b3 w', plaSmall p → IsPla w' (some ⟨b0, 0, none⟩) rl rl (some ⟨b1, 0, none⟩) gl gl (some ⟨b2, 0, none⟩) wl wl (some ⟨b3, 0, none⟩) tl tl p → Calls Tryz.prog 6 #[.agg #[.slice (some ⟨b0, 0, none⟩) rl rl, .int .i64 p.pol, .int .i64 p.win, .int .i64 p.last, .slice (some ⟨b1, 0, none⟩) gl gl, .slice (some ⟨b2, 0, none⟩) wl wl, .slice (some ⟨b3, 0, none⟩) tl tl], .int .i64 now] w' fun e w'' => (∃ sa sc sga sgc swa swk sta stc oa oc, e = .returned (.tuple #[.agg #[.slice sa (tickP p now).1.rs.length sc, .int .i64 (tickP p now).1.pol, .int .i64 (tickP p now).1.win, .int .i64 (tickP p now).1.last, .slice sga (tickP p now).1.goes.length sgc, .slice swa (tickP p now).1.waits.length swk, .slice sta (tickP p now).1.told.length stc], .slice oa (tickP p now).2.length oc]) ∧ IsPla w'' sa (tickP p now).1.rs.length sc sga (tickP p now).1.goes.length sgc swa (tickP p now).1.waits.length swk sta (tickP p now).1.told.length stc (tickP p now).1 ∧ IsTlds w'' oa (tickP p now).2.length oc (tickP p now).2) ∧ Below w'.heap.size w' w'') := fun b0 b1 b2 b3 w' hs h => specTickP _ _ _ _ _ _ _ _ _ _ _ _ p now w' h hs
  have HI : Hid (∀ b0 b1 b2 b3 w', plaSmall p → Below w.heap.size w w' → IsPla w' (some ⟨b0, 0, none⟩) rl rl (some ⟨b1, 0, none⟩) gl gl (some ⟨b2, 0, none⟩) wl wl (some ⟨b3, 0, none⟩) tl tl p → Calls Tryz.prog 8 #[.agg #[.slice (some ⟨b0, 0, none⟩) rl rl, .int .i64 p.pol, .int .i64 p.win, .int .i64 p.last, .slice (some ⟨b1, 0, none⟩) gl gl, .slice (some ⟨b2, 0, none⟩) wl wl, .slice (some ⟨b3, 0, none⟩) tl tl], .int .i64 now] w' fun e w'' => (∃ a0 k0 vs a4 k4 a5 k5 a6 k6 oa oc, e = .returned (.tuple #[.agg #[.slice a0 (tickP p now).1.rs.length k0, .int .i64 (tickP p now).1.pol, .int .i64 (tickP p now).1.win, .int .i64 (tickP p now).1.last, .slice a4 (tickP p now).1.goes.length k4, .slice a5 (tickP p now).1.waits.length k5, .slice a6 (tickP p now).1.told.length k6], .slice oa (tickP p now).2.length oc]) ∧ GathPV w'' w'.heap.size (.slice a0 (tickP p now).1.rs.length k0) vs (.slice a4 (tickP p now).1.goes.length k4) (.slice a5 (tickP p now).1.waits.length k5) (.slice a6 (tickP p now).1.told.length k6) (tickP p now).1 ∧ w''.ownsRow w'.heap.size 61 2 (.slice oa (tickP p now).2.length oc) (tickP p now).2.length (flatT (tickP p now).2) ∧ Goods (tickP p now).2 ∧ ∀ b, (Value.slice a6 (tickP p now).1.told.length k6).ownBlock = some b → (Value.slice oa (tickP p now).2.length oc).ownBlock ≠ some b) ∧ Below w'.heap.size w' w'') := fun b0 b1 b2 b3 w' hs hb h => implTickP _ _ _ _ _ _ _ _ _ _ _ _ p now w' h hs (HE.out.below hb)
  generalize (tickP p now).1 = P at HEND HS HI
  generalize (tickP p now).2 = O at HEND HS HI
  have EQ : Hid (∀ ra rc ga gc wa wk ta tc ra' rc' ga' gc' wa' wk' ta' tc' w', IsPla w' ra P.rs.length rc ga P.goes.length gc wa P.waits.length wk ta P.told.length tc P → IsPla w' ra' P.rs.length rc' ga' P.goes.length gc' wa' P.waits.length wk' ta' P.told.length tc' P → Calls Tryz.prog 9 #[.agg #[.slice ra P.rs.length rc, .int .i64 P.pol, .int .i64 P.win, .int .i64 P.last, .slice ga P.goes.length gc, .slice wa P.waits.length wk, .slice ta P.told.length tc], .agg #[.slice ra' P.rs.length rc', .int .i64 P.pol, .int .i64 P.win, .int .i64 P.last, .slice ga' P.goes.length gc', .slice wa' P.waits.length wk', .slice ta' P.told.length tc']] w' fun e w'' => e = .returned (.bool true) ∧ Below w'.heap.size w' w'') := fun ra rc ga gc wa wk ta tc ra' rc' ga' gc' wa' wk' ta' tc' w' h1 h2 => eqPlan _ _ _ _ _ _ _ _ _ _ _ _ _ _ _ _ _ _ _ _ P w' h1 h2
  have EQT : Hid (∀ a c a' c' w', IsTlds w' a O.length c O → IsTlds w' a' O.length c' O → Calls Tryz.prog 10 #[.slice a O.length c, .slice a' O.length c'] w' fun e w'' => e = .returned (.bool true) ∧ Below w'.heap.size w' w'') := fun a c a' c' w' h1 h2 => eqPlanToldS _ _ _ _ _ O w' h1 h2
  have HQ : Hid (∀ b0 b1 b2 b3 c0 c1 c2 c3 w', IsPla w' (some ⟨b0, 0, none⟩) rl rl (some ⟨b1, 0, none⟩) gl gl (some ⟨b2, 0, none⟩) wl wl (some ⟨b3, 0, none⟩) tl tl p → IsPla w' (some ⟨c0, 0, none⟩) rl rl (some ⟨c1, 0, none⟩) gl gl (some ⟨c2, 0, none⟩) wl wl (some ⟨c3, 0, none⟩) tl tl p → Calls Tryz.prog 9 #[.agg #[.slice (some ⟨b0, 0, none⟩) rl rl, .int .i64 p.pol, .int .i64 p.win, .int .i64 p.last, .slice (some ⟨b1, 0, none⟩) gl gl, .slice (some ⟨b2, 0, none⟩) wl wl, .slice (some ⟨b3, 0, none⟩) tl tl], .agg #[.slice (some ⟨c0, 0, none⟩) rl rl, .int .i64 p.pol, .int .i64 p.win, .int .i64 p.last, .slice (some ⟨c1, 0, none⟩) gl gl, .slice (some ⟨c2, 0, none⟩) wl wl, .slice (some ⟨c3, 0, none⟩) tl tl]] w' fun e w'' => e = .returned (.bool true) ∧ Below w'.heap.size w' w'') := fun b0 b1 b2 b3 c0 c1 c2 c3 w' h1 h2 => eqPlan _ _ _ _ _ _ _ _ _ _ _ _ _ _ _ _ _ _ _ _ p w' h1 h2
  have CELLS : Hid (∀ W, Below (w.heap.size + 1) (w.alloc (.cells #[.slice ra rl rc, .int .i64 p.pol, .int .i64 p.win, .int .i64 p.last, .slice ga gl gc, .slice wa wl wk, .slice ta tl tc] 26)) W → PlaBox W w.heap.size ra rl rc p.pol p.win p.last (.slice ga gl gc) (.slice wa wl wk) (.slice ta tl tc)) := fun W h => PlaBox.new h
  have HB0 : Hid (Below (w.heap.size + 1) (w.alloc (.cells #[.slice ra rl rc, .int .i64 p.pol, .int .i64 p.win, .int .i64 p.last, .slice ga gl gc, .slice wa wl wk, .slice ta tl tc] 26)) (w.alloc (.cells #[.slice ra rl rc, .int .i64 p.pol, .int .i64 p.win, .int .i64 p.last, .slice ga gl gc, .slice wa wl wk, .slice ta tl tc] 26))) := by
    have h := Below.refl (w.heap.size + 1) (w.alloc (.cells #[.slice ra rl rc, .int .i64 p.pol, .int .i64 p.win, .int .i64 p.last, .slice ga gl gc, .slice wa wl wk, .slice ta tl tc] 26))
    exact h
  have HBC : Hid (∀ {W W' : World}, Below (w.heap.size + 1) (w.alloc (.cells #[.slice ra rl rc, .int .i64 p.pol, .int .i64 p.win, .int .i64 p.last, .slice ga gl gc, .slice wa wl wk, .slice ta tl tc] 26)) W → Below W.heap.size W W' → Below (w.heap.size + 1) (w.alloc (.cells #[.slice ra rl rc, .int .i64 p.pol, .int .i64 p.win, .int .i64 p.last, .slice ga gl gc, .slice wa wl wk, .slice ta tl tc] 26)) W') := fun {W W'} h1 h2 => bcall h1 (by have := h1.size; simpa using this) h2
  go_enter Tryz.func3, Tryz.ntmps3
  go_wp2_with fail
  refine (HSZ.out _ (unbox HB0.out)).mono ?_
  rintro e w1 ⟨⟨r, rfl, hr1, hr2, hr3⟩, hb1⟩
  have HB1 : Hid _ := HBC.out HB0.out hb1
  clear hb1
  by_cases h0 : r < 0
  · go_wp2_with fail
    go_ret
    exact ⟨rfl, unbox HB1.out⟩
  have HSM : Hid (plaSmall p) := hr3 (by omega)
  clear hr3
  obtain ⟨c0, c1, c2, c3, c4, c5, c6⟩ := CELLS.out _ HB1.out
  go_wp2_with fail
  refine (HTO.out _ HSM.out (unbox HB1.out)).mono ?_
  rintro e w2 ⟨⟨b0, b1, b2, b3, rfl, _, hn2⟩, hb2⟩
  have HB2 : Hid _ := HBC.out HB1.out hb2
  have HN2 : Hid _ := hn2
  clear hb2 hn2 c0 c1 c2 c3 c4 c5 c6
  go_wp2_with fail
  refine (HS.out _ _ _ _ _ HSM.out HN2.out).mono ?_
  rintro e w3 ⟨⟨sa, sc, sga, sgc, swa, swk, sta, stc, ua, uc, rfl, hp3, ht3⟩, hb3⟩
  have HB3 : Hid _ := HBC.out HB2.out hb3
  have HP3 : Hid _ := hp3
  have HT3 : Hid _ := ht3
  clear hb3 hp3 ht3
  have HB3a : Hid _ := HB3.out.alloc (show w.heap.size + 1 ≤ w3.heap.size by have := HB3.out.size; simpa using this) (.cells #[.slice sa P.rs.length sc, .int .i64 P.pol, .int .i64 P.win, .int .i64 P.last, .slice sga P.goes.length sgc, .slice swa P.waits.length swk, .slice sta P.told.length stc] 31)
  have HAR : Hid (∀ W, Below (w3.heap.size + 1) (w3.alloc (.cells #[.slice sa P.rs.length sc, .int .i64 P.pol, .int .i64 P.win, .int .i64 P.last, .slice sga P.goes.length sgc, .slice swa P.waits.length swk, .slice sta P.told.length stc] 31)) W → Below (w.heap.size + 1) (w.alloc (.cells #[.slice ra rl rc, .int .i64 p.pol, .int .i64 p.win, .int .i64 p.last, .slice ga gl gc, .slice wa wl wk, .slice ta tl tc] 26)) W) := fun W h => HB3a.out.trans (h.mono (by have := HB3.out.size; simp at this; omega))
  have HW0 : Hid (∀ W, Below (w3.heap.size + 1) (w3.alloc (.cells #[.slice sa P.rs.length sc, .int .i64 P.pol, .int .i64 P.win, .int .i64 P.last, .slice sga P.goes.length sgc, .slice swa P.waits.length swk, .slice sta P.told.length stc] 31)) W → Holds W w3.heap.size 31 #[.slice sa P.rs.length sc, .int .i64 P.pol, .int .i64 P.win, .int .i64 P.last, .slice sga P.goes.length sgc, .slice swa P.waits.length swk, .slice sta P.told.length stc] ∧ IsPla W sa P.rs.length sc sga P.goes.length sgc swa P.waits.length swk sta P.told.length stc P ∧ IsTlds W ua O.length uc O) := fun W h => ⟨(h.block _ (by omega)).trans (heap_alloc_new _ _), IsPla.below (IsPla.alloc HP3.out _) (by simpa using h), IsTlds.below (IsTlds.below HT3.out (al_below _ _)) (by simpa using h)⟩
  have HCC : Hid (∀ {W W' : World}, Below (w3.heap.size + 1) (w3.alloc (.cells #[.slice sa P.rs.length sc, .int .i64 P.pol, .int .i64 P.win, .int .i64 P.last, .slice sga P.goes.length sgc, .slice swa P.waits.length swk, .slice sta P.told.length stc] 31)) W → Below W.heap.size W W' → Below (w3.heap.size + 1) (w3.alloc (.cells #[.slice sa P.rs.length sc, .int .i64 P.pol, .int .i64 P.win, .int .i64 P.last, .slice sga P.goes.length sgc, .slice swa P.waits.length swk, .slice sta P.told.length stc] 31)) W') := fun {W W'} h1 h2 => bcall h1 (by have := h1.size; simpa using this) h2
  have hc3 : Below (w3.heap.size + 1) (w3.alloc (.cells #[.slice sa P.rs.length sc, .int .i64 P.pol, .int .i64 P.win, .int .i64 P.last, .slice sga P.goes.length sgc, .slice swa P.waits.length swk, .slice sta P.told.length stc] 31)) (w3.alloc (.cells #[.slice sa P.rs.length sc, .int .i64 P.pol, .int .i64 P.win, .int .i64 P.last, .slice sga P.goes.length sgc, .slice swa P.waits.length swk, .slice sta P.told.length stc] 31)) := Below.refl _ _
  have HC3 : Hid _ := hc3
  clear hc3
  obtain ⟨c0, c1, c2, c3, c4, c5, c6⟩ := CELLS.out _ (HAR.out _ HC3.out)
  go_wp2_with fail
  refine (HTO.out _ HSM.out (unbox (HAR.out _ HC3.out))).mono ?_
  rintro e w4 ⟨⟨y0, y1, y2, y3, rfl, ⟨vx, hx4⟩, hn4⟩, hb4⟩
  have HC4 : Hid _ := HCC.out HC3.out hb4
  have HN4 : Hid _ := hn4
  have hx4' : GathPV w4 (w3.heap.size + 1) (.slice (some ⟨y0, 0, none⟩) rl rl) vx (.slice (some ⟨y1, 0, none⟩) gl gl) (.slice (some ⟨y2, 0, none⟩) wl wl) (.slice (some ⟨y3, 0, none⟩) tl tl) p := by have h := hx4; rw [World.size_alloc] at h; exact h
  have hx4b : Gv (w4.alloc (.cells #[.slice (some ⟨y0, 0, none⟩) rl rl, .int .i64 p.pol, .int .i64 p.win, .int .i64 p.last, .slice (some ⟨y1, 0, none⟩) gl gl, .slice (some ⟨y2, 0, none⟩) wl wl, .slice (some ⟨y3, 0, none⟩) tl tl] 31)) w4.heap.size (w3.heap.size + 1) (.slice (some ⟨y0, 0, none⟩) rl rl) vx (.slice (some ⟨y1, 0, none⟩) gl gl) (.slice (some ⟨y2, 0, none⟩) wl wl) (.slice (some ⟨y3, 0, none⟩) tl tl) p := ⟨heap_alloc_new _ _, GathPV.same hx4' (SameP.below (al_below _ _))⟩
  have HX4 : Hid _ := hx4b
  have HXL : Hid (∀ b, w4.heap.size ≤ b → (Value.slice (some ⟨y0, 0, none⟩) rl rl).ownBlock ≠ some b ∧ (∀ i (hi : i < vx.length), vx[i].ownBlock ≠ some b) ∧ (Value.slice (some ⟨y1, 0, none⟩) gl gl).ownBlock ≠ some b ∧ (Value.slice (some ⟨y2, 0, none⟩) wl wl).ownBlock ≠ some b ∧ (Value.slice (some ⟨y3, 0, none⟩) tl tl).ownBlock ≠ some b) := fun b hb =>
    ⟨fun e => by have := (World.ownsRow.lt hx4'.1.2.1 b e).2; omega, fun i hi e => by have := (World.ownsRow.lt (hx4'.1.2.2.1 i (by have := hx4'.1.1; omega)).1 b e).2; omega, fun e => by have := (World.ownsRow.lt hx4'.2.1.1 b e).2; omega, fun e => by have := (World.ownsRow.lt hx4'.2.2.1.1 b e).2; omega, fun e => by have := (World.ownsRow.lt hx4'.2.2.2.1.1 b e).2; omega⟩
  have hs4 : w3.heap.size + 1 ≤ w4.heap.size := by simpa using hb4.size
  clear hx4 hx4' hx4b hb4 hn4 c0 c1 c2 c3 c4 c5 c6
  go_wp2_with fail
  have HC4a : Hid _ := HCC.out HC4.out (al_below w4 (.cells #[.slice (some ⟨y0, 0, none⟩) rl rl, .int .i64 p.pol, .int .i64 p.win, .int .i64 p.last, .slice (some ⟨y1, 0, none⟩) gl gl, .slice (some ⟨y2, 0, none⟩) wl wl, .slice (some ⟨y3, 0, none⟩) tl tl] 31))
  refine (HI.out _ _ _ _ _ HSM.out (unbox (HAR.out _ HC4a.out)) (IsPla.alloc HN4.out _)).mono ?_
  rintro e w5 ⟨⟨a0, k0, vg, a4, k4, a5, k5, a6, k6, oa, oc, rfl, hG5, hO5, hgd, hne⟩, hb5⟩
  have HC5 : Hid _ := HCC.out HC4a.out hb5
  have HX5 : Hid _ := Gv.below HX4.out hb5
  simp only [World.size_alloc] at hG5 hO5
  have hg5 : Gw (w5.alloc (.cells #[.slice a0 P.rs.length k0, .int .i64 P.pol, .int .i64 P.win, .int .i64 P.last, .slice a4 P.goes.length k4, .slice a5 P.waits.length k5, .slice a6 P.told.length k6] 31)) w5.heap.size (w4.heap.size + 1) (.slice a0 P.rs.length k0) vg (.slice a4 P.goes.length k4) (.slice a5 P.waits.length k5) (.slice a6 P.told.length k6) (.slice oa O.length oc) P O := ⟨⟨heap_alloc_new _ _, GathPV.same hG5 (SameP.below (al_below _ _))⟩, own_same hO5 (SameP.below (al_below _ _)) (.inr (.inr rfl)), hgd, hne⟩
  have HG5 : Hid _ := hg5
  have hoN : (Value.slice oa O.length oc).ownBlock ≠ some w5.heap.size := fun e => by have := (World.ownsRow.lt hO5 _ e).2; omega
  have HON : Hid _ := hoN
  have hs5 : w4.heap.size + 1 ≤ w5.heap.size := by simpa using hb5.size
  have hc5 := HCC.out HC5.out (al_below w5 (.cells #[.slice a0 P.rs.length k0, .int .i64 P.pol, .int .i64 P.win, .int .i64 P.last, .slice a4 P.goes.length k4, .slice a5 P.waits.length k5, .slice a6 P.told.length k6] 31))
  have HC5a : Hid _ := hc5
  have HX5a : Hid _ := Gv.below HX5.out (al_below w5 (.cells #[.slice a0 P.rs.length k0, .int .i64 P.pol, .int .i64 P.win, .int .i64 P.last, .slice a4 P.goes.length k4, .slice a5 P.waits.length k5, .slice a6 P.told.length k6] 31))
  clear hG5 hO5 hgd hne hg5 hoN hb5 hc5
  have HPX : Hid (∃ px : Nat, (∀ W, Gv W w4.heap.size (w3.heap.size + 1) (.slice (some ⟨y0, 0, none⟩) rl rl) vx (.slice (some ⟨y1, 0, none⟩) gl gl) (.slice (some ⟨y2, 0, none⟩) wl wl) (.slice (some ⟨y3, 0, none⟩) tl tl) p → w3.heap.size + 1 ≤ W.heap.size → Calls Tryz.prog 11 #[.agg #[.slice (some ⟨y0, 0, none⟩) rl rl, .int .i64 p.pol, .int .i64 p.win, .int .i64 p.last, .slice (some ⟨y1, 0, none⟩) gl gl, .slice (some ⟨y2, 0, none⟩) wl wl, .slice (some ⟨y3, 0, none⟩) tl tl], .int .i64 1] W fun e W' => e = .returned (.int .i64 (px : Int)) ∧ Below (w3.heap.size + 1) W W' ∧ ∀ b, w4.heap.size + 1 ≤ b → b < W.heap.size → W'.heap[b]? = W.heap[b]?) ∧ px ≤ 4000000000000) := ⟨pE4 p 1, fun W h hb => (markPlan _ vx _ _ _ (w3.heap.size + 1) 1 p W h.2 (Nat.le_refl _) (plaSmall_end HSM.out) hb).mono fun e W' ⟨h1, h2, h3, h4⟩ => ⟨h1, h3, fun b hb1 hb2 => by
    have hl := HXL.out b (by omega)
    exact h4 b hb2 hl.1 hl.2.1 hl.2.2.1 hl.2.2.2.1 hl.2.2.2.2⟩, plaSmall_end HSM.out⟩
  obtain ⟨px, hMKX, hpx⟩ := HPX.out
  have MKX : Hid _ := hMKX
  have HPG : Hid (∃ pg : Nat, (∀ W, Gw W w5.heap.size (w4.heap.size + 1) (.slice a0 P.rs.length k0) vg (.slice a4 P.goes.length k4) (.slice a5 P.waits.length k5) (.slice a6 P.told.length k6) (.slice oa O.length oc) P O → w4.heap.size + 1 ≤ W.heap.size → Calls Tryz.prog 11 #[.agg #[.slice a0 P.rs.length k0, .int .i64 P.pol, .int .i64 P.win, .int .i64 P.last, .slice a4 P.goes.length k4, .slice a5 P.waits.length k5, .slice a6 P.told.length k6], .int .i64 1] W fun e W' => e = .returned (.int .i64 (pg : Int)) ∧ Gw W' w5.heap.size (w4.heap.size + 1) (.slice a0 P.rs.length k0) vg (.slice a4 P.goes.length k4) (.slice a5 P.waits.length k5) (.slice a6 P.told.length k6) (.slice oa O.length oc) (mP P 1) O ∧ Below (w4.heap.size + 1) W W') ∧
      (∀ W, Gw W w5.heap.size (w4.heap.size + 1) (.slice a0 P.rs.length k0) vg (.slice a4 P.goes.length k4) (.slice a5 P.waits.length k5) (.slice a6 P.told.length k6) (.slice oa O.length oc) (mP P 1) O → w4.heap.size + 1 ≤ W.heap.size → Calls Tryz.prog 12 #[.slice oa O.length oc, .int .i64 (pg : Int)] W fun e W' => e = .returned (.int .i64 ((pg + 2 * O.length : Nat) : Int)) ∧ Gw W' w5.heap.size (w4.heap.size + 1) (.slice a0 P.rs.length k0) vg (.slice a4 P.goes.length k4) (.slice a5 P.waits.length k5) (.slice a6 P.told.length k6) (.slice oa O.length oc) (mP P 1) (mT pg O.length) ∧ Below (w4.heap.size + 1) W W') ∧
      (∀ W, Gv W w5.heap.size (w4.heap.size + 1) (.slice a0 P.rs.length k0) vg (.slice a4 P.goes.length k4) (.slice a5 P.waits.length k5) (.slice a6 P.told.length k6) (mP P 1) → Calls Tryz.prog 13 #[.agg #[.slice a0 P.rs.length k0, .int .i64 P.pol, .int .i64 P.win, .int .i64 P.last, .slice a4 P.goes.length k4, .slice a5 P.waits.length k5, .slice a6 P.told.length k6], .int .i64 1] W fun e W' => e = .returned (.int .i64 (pg : Int)) ∧ Below W.heap.size W W') ∧
      (∀ W base, Gw W w5.heap.size base (.slice a0 P.rs.length k0) vg (.slice a4 P.goes.length k4) (.slice a5 P.waits.length k5) (.slice a6 P.told.length k6) (.slice oa O.length oc) (mP P 1) (mT pg O.length) → Calls Tryz.prog 14 #[.slice oa O.length oc, .int .i64 (pg : Int)] W fun e W' => e = .returned (.int .i64 ((pg + 2 * O.length : Nat) : Int)) ∧ Below W.heap.size W W') ∧ pg ≤ 1000) :=
    ⟨pE4 P 1, fun W h hb => markPlanGw h (by have := HEND.out.1; omega) hb, fun W h hb => markToldGw h (by have := HEND.out; omega) hb, fun W h => heldPlan _ _ _ _ _ _ _ _ _ _ _ _ _ _ _ P 1 W (GathPV.reads h.2) (Nat.le_refl _) (by have := HEND.out.1; omega), fun W base h => heldTold _ _ _ _ _ W (Gw.tlds h) (by have := HEND.out; omega), HEND.out.1⟩
  obtain ⟨pg, hMKG, hMKT, hHD, hHDT, hpg⟩ := HPG.out
  have MKG : Hid _ := hMKG
  have MKT : Hid _ := hMKT
  have HD : Hid _ := hHD
  have HDT : Hid _ := hHDT
  have hO5 : O.length ≤ 500000 := HEND.out.2
  have hk1 : ((pg + 2 * O.length : Nat) : Int) ≤ 2000000 := by omega
  have hk0 : (0 : Int) ≤ ((pg + 2 * O.length : Nat) : Int) := by omega
  clear hMKX hMKG hMKT hHD hHDT HPX HPG HEND
  generalize hKK : ((pg + 2 * O.length : Nat) : Int) = KK at MKT HDT hk1 hk0
  clear hKK
  obtain ⟨x0, x1, x2, x3, x4, x5, x6, xf⟩ := sevenOf (HW0.out _ HC5a.out).1
  go_wp2_with fail
  refine (EQ.out _ _ _ _ _ _ _ _ _ _ _ _ _ _ _ _ _ (GathPV.reads HG5.out.1.2) (HW0.out _ HC5a.out).2.1).mono ?_
  rintro e w6 ⟨rfl, hb6⟩
  have HC6 : Hid _ := HCC.out HC5a.out hb6
  have HX6 : Hid _ := Gv.below HX5a.out hb6
  have HG6 : Hid _ := Gw.below HG5.out hb6
  clear hb6 x0 x1 x2 x3 x4 x5 x6 xf
  go_wp2_with fail
  refine (EQT.out _ _ _ _ _ (Gw.tlds HG6.out) (HW0.out _ HC6.out).2.2).mono ?_
  rintro e w7 ⟨rfl, hb7⟩
  have HC7 : Hid _ := HCC.out HC6.out hb7
  have HX7 : Hid _ := Gv.below HX6.out hb7
  have HG7 : Hid _ := Gw.below HG6.out hb7
  clear hb7
  obtain ⟨c0, c1, c2, c3, c4, c5, c6⟩ := CELLS.out _ (HAR.out _ HC7.out)
  obtain ⟨x0, x1, x2, x3, x4, x5, x6, xf⟩ := sevenOf HX7.out.1
  have hlt7 : w4.heap.size < w7.heap.size := World.block_lt_of_cell? _ _ x0
  have HC7d : Hid _ := HC7.out.drew
  go_wp2_with fail
  go_region_with (first
    | (go_at_call 7; refine (HTO.out _ HSM.out (unbox (HAR.out _ HC7d.out))).mono ?_; rintro e w8 ⟨⟨f0, f1, f2, f3, rfl, _, hn8⟩, hb8⟩; have HC8 : Hid _ := HCC.out HC7d.out hb8; have HN8 : Hid _ := hn8; have HX8 : Hid _ := Gv.below (Gv.below HX7.out (Below.refl _ _).drew) hb8; have HG8 : Hid _ := Gw.below (Gw.below HG7.out (Below.refl _ _).drew) hb8; have z0 := (hb8.cell (p := ⟨w4.heap.size, 0, none⟩) hlt7).trans x0; have z1 := (hb8.cell (p := ⟨w4.heap.size, 1, none⟩) hlt7).trans x1; have z2 := (hb8.cell (p := ⟨w4.heap.size, 2, none⟩) hlt7).trans x2; have z3 := (hb8.cell (p := ⟨w4.heap.size, 3, none⟩) hlt7).trans x3; have z4 := (hb8.cell (p := ⟨w4.heap.size, 4, none⟩) hlt7).trans x4; have z5 := (hb8.cell (p := ⟨w4.heap.size, 5, none⟩) hlt7).trans x5; have z6 := (hb8.cell (p := ⟨w4.heap.size, 6, none⟩) hlt7).trans x6; clear hb8 hn8)
    | (go_at_call 9; refine (HQ.out _ _ _ _ _ _ _ _ _ (GathPV.reads HX8.out.2) HN8.out).mono ?_; rintro e w9 ⟨rfl, hb9⟩; have HC9 : Hid _ := HCC.out HC8.out hb9; have HX9 : Hid _ := Gv.below HX8.out hb9; have HG9 : Hid _ := Gw.below HG8.out hb9; clear hb9))
  all_goals
    try clear z0 z1 z2 z3 z4 z5 z6
    clear x0 x1 x2 x3 x4 x5 x6 xf c0 c1 c2 c3 c4 c5 c6 hlt7
    obtain ⟨x0, x1, x2, x3, x4, x5, x6, xf⟩ := sevenOf HX9.out.1
    go_wp2_with fail
    refine (MKX.out _ HX9.out (by have := HC9.out.size; simp at this; omega)).mono ?_
    rintro e w10 ⟨rfl, hb10, hf10⟩
    have HC10 : Hid _ := HC9.out.trans hb10
    have HG10 : Hid _ := Gw.up HG9.out hf10 hs5
    clear hb10 hf10 x0 x1 x2 x3 x4 x5 x6 xf
    obtain ⟨x0, x1, x2, x3, x4, x5, x6, xf⟩ := sevenOf (HW0.out _ HC10.out).1
    obtain ⟨q0, q1, q2, q3, q4, q5, q6, qf⟩ := sevenOf HG10.out.1.1
    go_wp2_with fail
    refine (EQ.out _ _ _ _ _ _ _ _ _ _ _ _ _ _ _ _ _ (GathPV.reads HG10.out.1.2) (HW0.out _ HC10.out).2.1).mono ?_
    rintro e w11 ⟨rfl, hb11⟩
    have HC11 : Hid _ := HCC.out HC10.out hb11
    have HG11 : Hid _ := Gw.below HG10.out hb11
    clear hb11 x0 x1 x2 x3 x4 x5 x6 xf q0 q1 q2 q3 q4 q5 q6 qf
    go_wp2_with fail
    refine (EQT.out _ _ _ _ _ (Gw.tlds HG11.out) (HW0.out _ HC11.out).2.2).mono ?_
    rintro e w12 ⟨rfl, hb12⟩
    have HC12 : Hid _ := HCC.out HC11.out hb12
    have HG12 : Hid _ := Gw.below HG11.out hb12
    clear hb12
    obtain ⟨q0, q1, q2, q3, q4, q5, q6, qf⟩ := sevenOf HG12.out.1.1
    go_wp2_with fail
    refine (MKG.out _ HG12.out (by have := HC12.out.size; simp at this; have := HG12.out.1.1.lt; omega)).mono ?_
    rintro e w13 ⟨rfl, hg13, hb13⟩
    have HC13 : Hid _ := HC12.out.trans (hb13.mono (by omega))
    have HG13 : Hid _ := hg13
    clear hg13 hb13 q0 q1 q2 q3 q4 q5 q6 qf
    go_wp2_with fail
    refine (MKT.out _ HG13.out (by have := HG13.out.1.1.lt; omega)).mono ?_
    rintro e w14 ⟨rfl, hg14, hb14⟩
    have HC14 : Hid _ := HC13.out.trans (hb14.mono (by omega))
    have HG14 : Hid _ := hg14
    clear hg14 hb14
    obtain ⟨q0, q1, q2, q3, q4, q5, q6, qf⟩ := sevenOf HG14.out.1.1
    go_wp2_with fail
    refine (HD.out _ HG14.out.1).mono ?_
    rintro e w15 ⟨rfl, hb15⟩
    have HC15 : Hid _ := HCC.out HC14.out hb15
    have HG15 : Hid _ := Gw.below HG14.out hb15
    clear hb15 q0 q1 q2 q3 q4 q5 q6 qf
    go_wp2_with fail
    refine (HDT.out _ _ HG15.out).mono ?_
    rintro e w16 ⟨rfl, hb16⟩
    have HC16 : Hid _ := HCC.out HC15.out hb16
    have HG16 : Hid _ := Gw.below HG15.out hb16
    clear hb16
    obtain ⟨c0, c1, c2, c3, c4, c5, c6⟩ := CELLS.out _ (HAR.out _ HC16.out)
    go_wp2_with fail
    refine (HTO.out _ HSM.out (unbox (HAR.out _ HC16.out))).mono ?_
    rintro e w17 ⟨⟨f0, f1, f2, f3, rfl, _, hn17⟩, hb17⟩
    have HC17 : Hid _ := HCC.out HC16.out hb17
    have HG17 : Hid _ := Gw.below HG16.out hb17
    have HN17 : Hid _ := hn17
    clear hb17 hn17 c0 c1 c2 c3 c4 c5 c6
    go_wp2_with fail
    refine (HI.out _ _ _ _ _ HSM.out (unbox (HAR.out _ HC17.out)) HN17.out).mono ?_
    rintro e w18 ⟨⟨d0, e0, vh, d4, e4, d5, e5, d6, e6, da, dc, rfl, hG18, hO18, hgd, hne⟩, hb18⟩
    have HC18 : Hid _ := HCC.out HC17.out hb18
    have HG18 : Hid _ := Gw.below HG17.out hb18
    have hh18 : Gw (w18.alloc (.cells #[.slice d0 P.rs.length e0, .int .i64 P.pol, .int .i64 P.win, .int .i64 P.last, .slice d4 P.goes.length e4, .slice d5 P.waits.length e5, .slice d6 P.told.length e6] 31)) w18.heap.size w17.heap.size (.slice d0 P.rs.length e0) vh (.slice d4 P.goes.length e4) (.slice d5 P.waits.length e5) (.slice d6 P.told.length e6) (.slice da O.length dc) P O := ⟨⟨heap_alloc_new _ _, GathPV.same hG18 (SameP.below (al_below _ _))⟩, own_same hO18 (SameP.below (al_below _ _)) (.inr (.inr rfl)), hgd, hne⟩
    have HH18 : Hid _ := hh18
    have hc18 := HCC.out HC18.out (al_below w18 (.cells #[.slice d0 P.rs.length e0, .int .i64 P.pol, .int .i64 P.win, .int .i64 P.last, .slice d4 P.goes.length e4, .slice d5 P.waits.length e5, .slice d6 P.told.length e6] 31))
    have HC18a : Hid _ := hc18
    have HG18a : Hid _ := Gw.below HG18.out (al_below w18 (.cells #[.slice d0 P.rs.length e0, .int .i64 P.pol, .int .i64 P.win, .int .i64 P.last, .slice d4 P.goes.length e4, .slice d5 P.waits.length e5, .slice d6 P.told.length e6] 31))
    clear hG18 hO18 hgd hne hb18 hh18 hc18
    obtain ⟨x0, x1, x2, x3, x4, x5, x6, xf⟩ := sevenOf (HW0.out _ HC18a.out).1
    go_wp2_with fail
    refine (EQ.out _ _ _ _ _ _ _ _ _ _ _ _ _ _ _ _ _ (GathPV.reads HH18.out.1.2) (HW0.out _ HC18a.out).2.1).mono ?_
    rintro e w19 ⟨rfl, hb19⟩
    have HC19 : Hid _ := HCC.out HC18a.out hb19
    have HG19 : Hid _ := Gw.below HG18a.out hb19
    have HH19 : Hid _ := Gw.below HH18.out hb19
    clear hb19 x0 x1 x2 x3 x4 x5 x6 xf
    go_wp2_with fail
    refine (EQT.out _ _ _ _ _ (Gw.tlds HH19.out) (HW0.out _ HC19.out).2.2).mono ?_
    rintro e w20 ⟨rfl, hb20⟩
    have HC20 : Hid _ := HCC.out HC19.out hb20
    have HG20 : Hid _ := Gw.below HG19.out hb20
    clear hb20
    obtain ⟨q0, q1, q2, q3, q4, q5, q6, qf⟩ := sevenOf HG20.out.1.1
    go_wp2_with fail
    refine (HD.out _ HG20.out.1).mono ?_
    rintro e w21 ⟨rfl, hb21⟩
    have HC21 : Hid _ := HCC.out HC20.out hb21
    have HG21 : Hid _ := Gw.below HG20.out hb21
    clear hb21 q0 q1 q2 q3 q4 q5 q6 qf
    go_wp2_with fail
    refine (HDT.out _ _ HG21.out).mono ?_
    rintro e w22 ⟨rfl, hb22⟩
    have HC22 : Hid _ := HCC.out HC21.out hb22
    clear hb22
    go_wp2_with fail
    go_ret
    exact ⟨rfl, unbox (HAR.out _ HC22.out)⟩
end Pl
end Go.Proofs.YtghocdiddolinaaGreatDoor
