/- The program's planned: a plan behind what is done with it. -/
import Derived.Test.YtghocdiddolinaaGreatDoorJ40
import Derived.Test.YtghocdiddolinaaGreatDoorJ41
import Derived.Test.YtghocdiddolinaaGreatDoorJ43
namespace Go.Proofs.YtghocdiddolinaaGreatDoor
set_option linter.unusedVariables false
set_option linter.unusedSimpArgs false
open Go.RowKit Go Go.Sort
namespace Pl
open Dr (ButO rowB rowB_own rowB_pos)

/-- What the program leaves of a plan. -/
def DonePost (w0 : World) (p : Pla) (os : List Tld) (e : Ending) (w' : World) : Prop :=
  (∃ v0 vs vg vw vt vo, e = .returned (.tuple #[.agg #[v0, .int .i64 p.pol, .int .i64 p.win, .int .i64 p.last, vg, vw, vt], vo]) ∧ GathPV w' w0.heap.size v0 vs vg vw vt p ∧ w'.ownsRow w0.heap.size 61 2 vo os.length (flatT os) ∧ Goods os ∧ (∀ b, vt.ownBlock = some b → vo.ownBlock ≠ some b)) ∧ Below w0.heap.size w0 w'
/-- What is done with a planner: how it turns what goes on, what waits, how far it was looked at, and what is told. -/
def DoesP (df : Value) (w : World) (p : Pla) (last' : Int) (gs' ws' : List Int) (os' : List Tld) : Prop :=
  ∃ g cap, df = .func (.func g) #[] cap ∧ (∀ args w, (callFunc g args).run Tryz.prog w = .ok (.enter g args) w) ∧
    ∀ (W w0 : World) (F n m : Nat) (S : Nat → Prop) (ra : Option Addr) (rl rc : Nat) (vg vw vt vo : Value), Pnr W F S n m (.slice ra rl rc) p.pol p.win p.last (.iface (polT p.pol) (polV p.pol)) vg vw vt vo p.goes p.waits p.told [] → IsRuls w0 ra rl rc p.rs → Below w0.heap.size w0 W → (∀ k, k < w0.heap.size → k < F ∨ k = m ∨ S k) → Below w.heap.size w W → w.heap.size ≤ F →
      Calls Tryz.prog g (#[.pointer (some ⟨n, 0, none⟩)] ++ cap) W (LookTo W F S n m (.slice ra rl rc) p.pol p.win last' (.iface (polT p.pol) (polV p.pol)) vt gs' ws' p.told os')

def frameR (n m N : Nat) (T xs : Nat → Value) : Act := { tmps := #[T 0, T 1, T 2, T 3, .pointer (some ⟨N, 0, none⟩), T 5, T 6, T 7, .pointer (some ⟨m, 0, none⟩), .pointer (some ⟨n, 0, none⟩), T 10, T 11, T 12, T 13, T 14, T 15, T 16, T 17, T 18, T 19, T 20, T 21, T 22, T 23, T 24, T 25, T 26, T 27, T 28, xs 0, xs 1, xs 2, xs 3, xs 4, xs 5, xs 6, xs 7, xs 8, xs 9, xs 10, T 40, T 41, T 42, T 43, T 44], defers := [] }

theorem Und.base {w : World} {F F' : Nat} {vg vw vt vo : Value} {gs ws : List Int} {ts os : List Tld} (h : Und w F vg vw vt vo gs ws ts os) (hF : F' ≤ F) : Und w F' vg vw vt vo gs ws ts os := ⟨h.goes.base hF, h.waits.base hF, h.told.base hF, h.out.base hF, h.ap1, h.ap2⟩
theorem own_low {w : World} {F F' : Nat} {v : Value} {zs : List Int} (h : ButO w F v zs) (hz : NZ v) (hF : F' ≤ F) : w.ownsRow F' 3 1 v zs.length (zs.map (Value.int .i64)) := by
  rcases h with ⟨h0, h1, a, rfl, _⟩ | h
  · obtain rfl := hz a rfl
    have : zs = [] := List.length_eq_zero_iff.1 h0
    subst this
    exact World.ownsRow_nil _ _ _ _
  · exact Cal.own_base h hF
def OkR (n : Nat) (vt vo : Value) : Nat → Value
  | 4 => .pointer (some ⟨n, 6, none⟩)
  | 5 => vt
  | 6 => vo
  | 10 => .pointer (some ⟨n, 6, none⟩)
  | _ => .pointer (some ⟨n, 0, none⟩)
/-- While what was told last is put into the plan. -/
def InvR (w4 : World) (n m N : Nat) (vt vo : Value) (ts : List Tld) (T : Nat → Value) (listed : Array Bool) (act : Act) (W : World) : Prop :=
  ∃ xs W0, act = frameR n m N T xs ∧ (∀ j, j < 11 → j ≠ 7 → listed.getD j false = true → xs j = OkR n vt vo j) ∧ Below w4.heap.size w4 W0 ∧ (listed.getD 7 false = true → W0.ownsRow w4.heap.size 61 2 (xs 7) ts.length (flatT ts)) ∧ W = (if listed.getD 11 false = true then W0.setCell ⟨n, 6, none⟩ (xs 7) else W0)
theorem InvR.val {w4 W : World} {n m N : Nat} {vt vo : Value} {ts : List Tld} {T xs : Nat → Value} {listed : Array Bool} {act : Act} {v : Value} (hX : ∀ j, j < 11 → j ≠ 7 → listed.getD j false = true → xs j = OkR n vt vo j) (hB : Below w4.heap.size w4 W) (hD : listed.getD 7 false = true → W.ownsRow w4.heap.size 61 2 (xs 7) ts.length (flatT ts)) (l11 : listed.getD 11 false = false) (i : Nat) (hi : i < 11) (h7 : i ≠ 7) (hv : v = OkR n vt vo i) (ha : act = frameR n m N T (updU xs i v)) : InvR w4 n m N vt vo ts T (listed.setIfInBounds i true) act W := by
  refine ⟨_, W, ha, fun j hj hj7 hl => ?_, hB, fun hl => ?_, ?_⟩
  · by_cases e : j = i
    · subst e; rw [updU_same]; exact hv
    · rw [updU_else xs v e]; exact hX j hj hj7 (by rwa [RI.up_else e] at hl)
  · rw [RI.up_else (fun e => h7 e.symm)] at hl
    rw [updU_else xs v (fun e => h7 e.symm)]
    exact hD hl
  · rw [RI.up_else (by omega), l11]; rfl

set_option maxRecDepth 20000 in
set_option maxHeartbeats 8000000 in
theorem planned (ra : Option Addr) (rl rc : Nat) (ga : Option Addr) (gl gc : Nat) (wa : Option Addr) (wl wk : Nat) (ta : Option Addr) (tl tc : Nat) (p : Pla) (df : Value) (last' : Int) (gs' ws' : List Int) (os' : List Tld) (w : World) (hp : IsPla w ra rl rc ga gl gc wa wl wk ta tl tc p) (hs : plaSmall p) (hE : ErrT w)
    (hdo : planOk p = true → DoesP df w p last' gs' ws' os') (hwg : Wfs gs') (hww : Wfs ws') (hwo : Goods os') (hn : os'.length ≤ 500000) :
    Calls Tryz.prog 28 #[.agg #[.slice ra rl rc, .int .i64 p.pol, .int .i64 p.win, .int .i64 p.last, .slice ga gl gc, .slice wa wl wk, .slice ta tl tc], df] w
      (DonePost w (if planOk p = true then ⟨p.rs, p.pol, p.win, last', gs', ws', keep (p.told ++ os')⟩ else noPlan) (if planOk p = true then os' else [])) := by
  have hrl := (IsRecs.len hp.1).1
  have hgl := (hp.2.1.len).1
  have hwl := (hp.2.2.1.len).1
  have htl := (IsRecs.len hp.2.2.2).1
  subst hrl hgl hwl htl
  have HP : Hid (IsPla w ra p.rs.length rc ga p.goes.length gc wa p.waits.length wk ta p.told.length tc p) := hp
  have HSM : Hid (plaSmall p) := hs
  have HE : Hid (∀ W, Below w.heap.size w W → ErrT W) := fun W h => hE.below h
  have HDO : Hid _ := hdo
  have HWF : Hid (Wfs gs' ∧ Wfs ws' ∧ Goods os' ∧ os'.length ≤ 500000) := ⟨hwg, hww, hwo, hn⟩
  clear hp hs hE hdo hwg hww hwo hn
  have hr1 : planOk p = true → (DonePost w (if planOk p = true then ⟨p.rs, p.pol, p.win, last', gs', ws', keep (p.told ++ os')⟩ else noPlan) (if planOk p = true then os' else [])) = DonePost w ⟨p.rs, p.pol, p.win, last', gs', ws', keep (p.told ++ os')⟩ os' := fun h => by rw [if_pos h, if_pos h]
  have hr2 : ¬ planOk p = true → (DonePost w (if planOk p = true then ⟨p.rs, p.pol, p.win, last', gs', ws', keep (p.told ++ os')⟩ else noPlan) (if planOk p = true then os' else [])) = DonePost w noPlan [] := fun h => by rw [if_neg h, if_neg h]
  generalize (DonePost w (if planOk p = true then ⟨p.rs, p.pol, p.win, last', gs', ws', keep (p.told ++ os')⟩ else noPlan) (if planOk p = true then os' else [])) = R at hr1 hr2 ⊢
  have HR1 : Hid _ := hr1
  have HR2 : Hid _ := hr2
  clear hr1 hr2
  have HBX : Hid _ := boxes2_new w 31 31 #[.slice ra p.rs.length rc, .int .i64 p.pol, .int .i64 p.win, .int .i64 p.last, .slice ga p.goes.length gc, .slice wa p.waits.length wk, .slice ta p.told.length tc] #[.slice none 0 0, .int .i64 0, .int .i64 0, .int .i64 0, .slice none 0 0, .slice none 0 0, .slice none 0 0]
  have HB0 : Hid _ := ((Below.refl w.heap.size w).alloc (Nat.le_refl _) (.cells #[.slice ra p.rs.length rc, .int .i64 p.pol, .int .i64 p.win, .int .i64 p.last, .slice ga p.goes.length gc, .slice wa p.waits.length wk, .slice ta p.told.length tc] 31)).alloc (by simp) (.cells #[.slice none 0 0, .int .i64 0, .int .i64 0, .int .i64 0, .slice none 0 0, .slice none 0 0, .slice none 0 0] 31)
  have hmf : ∀ (fn : Fn) (first cap : Array Value) (w : World), (Instr.makeFunc fn first cap).run Tryz.prog w = .ok (.func fn first cap) w := fun _ _ _ _ => rfl
  go_enter Tryz.func28, Tryz.ntmps28
  go_wp2_with fail
  refine (implPlanOk ra p.rs.length rc ga p.goes.length gc wa p.waits.length wk ta p.told.length tc p _ (HP.out.below HB0.out) (HE.out _ HB0.out)).mono ?_
  rintro e w1 ⟨rfl, hb1⟩
  have HX1 : Hid (Holds w1 w.heap.size 31 _ ∧ Holds w1 (w.heap.size + 1) 31 _) := ⟨HBX.out.1.below hb1, HBX.out.2.below hb1⟩
  have HB1 : Hid (Below w.heap.size w w1 ∧ w.heap.size + 2 ≤ w1.heap.size) := ⟨bcall HB0.out HB0.out.size hb1, by have := hb1.size; simpa using this⟩
  clear hb1 HBX HB0
  obtain ⟨p0, p1, p2, p3, p4, p5, p6, pf⟩ := sevenOf HX1.out.1
  by_cases hok : planOk p = true
  · have hPO := planOk_ok hok
    have HPO : Hid (PlanOk p) := hPO
    obtain ⟨g, cap, rfl, eG, hdo2⟩ := HDO.out hok
    have HDO2 : Hid _ := hdo2
    have HR : Hid _ := HR1.out hok
    rw [hok]
    clear hok HDO hPO hdo2 HR1 HR2
    go_wp2_with fail
    refine (policyOf_yes p.pol HPO.out.pol w1).mono ?_
    rintro e w2 ⟨rfl, hb2⟩
    have HX2 : Hid (Holds w2 w.heap.size 31 _ ∧ Holds w2 (w.heap.size + 1) 31 _) := ⟨HX1.out.1.below hb2, HX1.out.2.below hb2⟩
    have HB2 : Hid (Below w.heap.size w w2 ∧ w.heap.size + 2 ≤ w2.heap.size) := ⟨bcall HB1.out.1 HB1.out.1.size hb2, Nat.le_trans HB1.out.2 hb2.size⟩
    clear hb2 HX1 HB1 p0 p1 p2 p3 p4 p5 p6 pf
    obtain ⟨p0, p1, p2, p3, p4, p5, p6, pf⟩ := sevenOf HX2.out.1
    have hnl2 := HX2.out.1.lt
    go_wp2_with fail
    refine (copyPlanU ra p.rs.length rc ga p.goes.length gc wa p.waits.length wk ta p.told.length tc p _ (HP.out.below (HB2.out.1.alloc HB2.out.1.size _)) HSM.out).mono ?_
    rintro e w3 ⟨⟨a0, k0, vs, a4, k4, a5, k5, a6, k6, F, rfl, hF1, hF2, ⟨w0, hw0, hbw0, hgv⟩, hvs, hU, hnz4, hnz5⟩, hb3⟩
    have HX3 : Hid (Holds w3 (w.heap.size + 1) 31 _ ∧ Holds w3 w2.heap.size 29 #[.slice none 0 0]) := ⟨(HX2.out.2.below (al_below _ _)).below hb3, Holds.below (heap_alloc_new _ _) hb3⟩
    simp only [World.size_alloc] at hF1 hgv
    have hm3 : w2.heap.size < w3.heap.size := by omega
    have HB3 : Hid (Below w.heap.size w w3 ∧ w.heap.size + 2 ≤ w2.heap.size) := ⟨bcall (HB2.out.1.alloc HB2.out.1.size _) (by have := HB2.out.2; simp; omega) hb3, HB2.out.2⟩
    have HPN : Hid (Pnr (w3.alloc (.cells #[.slice a0 p.rs.length k0, .int .i64 p.pol, .int .i64 p.win, .int .i64 p.last, .slice a4 p.goes.length k4, .slice a5 p.waits.length k5, .slice a6 p.told.length k6, .iface (polT p.pol) (polV p.pol), tellF w2.heap.size] 84)) w2.heap.size (fun k => w2.heap.size < k ∧ k < F) w3.heap.size w2.heap.size (.slice a0 p.rs.length k0) p.pol p.win p.last (.iface (polT p.pol) (polV p.pol)) (.slice a4 p.goes.length k4) (.slice a5 p.waits.length k5) (.slice a6 p.told.length k6) (.slice none 0 0) p.goes p.waits p.told []) :=
      ⟨heap_alloc_new _ _, HX3.out.2.below (al_below _ _), (hU.below (al_below _ _)).base (by omega), ⟨own_low (hU.below (al_below _ _)).goes hnz4 (by omega), own_low (hU.below (al_below _ _)).waits hnz5 (by omega), World.ownsRow_nil _ _ _ _, hnz4, hnz5, nz_none⟩, ⟨by omega, Nat.le_refl _⟩, ⟨fun h => by omega, fun h => by omega⟩, fun k hk => by simp; omega, fun b e h => by have := (hU.goes.block e).1; omega, fun b e h => by have := (hU.waits.block e).1; omega, fun b e h => by simp [rowB] at e⟩
    have HW0 : Hid (w0.heap.size = F ∧ Below w0.heap.size w0 (w3.alloc (.cells #[.slice a0 p.rs.length k0, .int .i64 p.pol, .int .i64 p.win, .int .i64 p.last, .slice a4 p.goes.length k4, .slice a5 p.waits.length k5, .slice a6 p.told.length k6, .iface (polT p.pol) (polV p.pol), tellF w2.heap.size] 84)) ∧ Cal.GathV w0 (w2.heap.size + 1) (.slice a0 p.rs.length k0) vs p.rs ∧ ∀ i (hi : i < vs.length), ∀ b, vs[i].ownBlock = some b → b < F) := ⟨hw0, by rw [hw0]; exact hbw0.trans ((al_below _ _).mono hF2), hgv, hvs⟩
    have HBA : Hid (Below w.heap.size w (w3.alloc (.cells #[.slice a0 p.rs.length k0, .int .i64 p.pol, .int .i64 p.win, .int .i64 p.last, .slice a4 p.goes.length k4, .slice a5 p.waits.length k5, .slice a6 p.told.length k6, .iface (polT p.pol) (polV p.pol), tellF w2.heap.size] 84))) := HB3.out.1.alloc HB3.out.1.size _
    have HXA : Hid (Holds (w3.alloc (.cells #[.slice a0 p.rs.length k0, .int .i64 p.pol, .int .i64 p.win, .int .i64 p.last, .slice a4 p.goes.length k4, .slice a5 p.waits.length k5, .slice a6 p.told.length k6, .iface (polT p.pol) (polV p.pol), tellF w2.heap.size] 84)) (w.heap.size + 1) 31 _) := HX3.out.1.below (al_below _ _)
    clear hw0 hbw0 hgv hvs hU hnz4 hnz5 hb3 hF1 hF2 HX2 HX3 HB2 p0 p1 p2 p3 p4 p5 p6 pf hnl2
    go_wp2_with fail
    obtain ⟨ax, cx, ex, hru⟩ := Cal.gath_ruls (Cal.GathV.gath HW0.out.2.2.1)
    simp only [Value.slice.injEq, true_and] at ex
    obtain ⟨rfl, rfl⟩ := ex
    refine (HDO2.out _ w0 _ _ _ _ _ _ _ _ _ _ _ HPN.out hru HW0.out.2.1 (fun k hk => by rw [HW0.out.1] at hk; rcases Nat.lt_trichotomy k w2.heap.size with h | h | h; exact .inl h; exact .inr (.inl h); exact .inr (.inr ⟨h, hk⟩)) HBA.out (by have := HB3.out.2; omega)).mono ?_
    rintro e w4 ⟨rfl, ⟨vg4, vw4, vo4, hP4⟩, hF4, hK4⟩
    obtain ⟨ga4, gc4, rfl⟩ := hP4.und.goes.form
    obtain ⟨wa4, wc4, rfl⟩ := hP4.und.waits.form
    obtain ⟨oa4, oc4, rfl⟩ := hP4.und.out.form
    have HP4 : Hid (Pnr w4 w2.heap.size (fun k => w2.heap.size < k ∧ k < F) w3.heap.size w2.heap.size (.slice a0 p.rs.length k0) p.pol p.win last' (.iface (polT p.pol) (polV p.pol)) (.slice ga4 gs'.length gc4) (.slice wa4 ws'.length wc4) (.slice a6 p.told.length k6) (.slice oa4 os'.length oc4) gs' ws' p.told os') := hP4
    have HX4 : Hid (Holds w4 (w.heap.size + 1) 31 #[.slice none 0 0, .int .i64 0, .int .i64 0, .int .i64 0, .slice none 0 0, .slice none 0 0, .slice none 0 0]) := (hF4.block _ (by have := HB3.out.2; omega)).trans HXA.out
    have HB4 : Hid (Below w.heap.size w w4) := HBA.out.trans (hF4.mono (by have := HB3.out.2; omega))
    have HG4 : Hid (Cal.GathV w4 (w2.heap.size + 1) (.slice a0 p.rs.length k0) vs p.rs) := gathV_stay HW0.out.2.2.1 (fun b e => by
      have h1 := World.ownsRow.lt HW0.out.2.2.1.2.1 b e
      rw [HW0.out.1] at h1
      exact (hK4 b ⟨by omega, h1.2⟩).trans (HW0.out.2.1.block b (by rw [HW0.out.1]; exact h1.2))) (fun i hi b e => by
      have h1 := World.ownsRow.lt (HW0.out.2.2.1.2.2.1 i (by have := HW0.out.2.2.1.1; omega)).1 b e
      rw [HW0.out.1] at h1
      exact (hK4 b ⟨by omega, h1.2⟩).trans (HW0.out.2.1.block b (by rw [HW0.out.1]; exact h1.2)))
    have HLT : Hid (∀ X, Below w4.heap.size w4 X → Calls Tryz.prog 54 #[.slice a6 p.told.length k6, .slice oa4 os'.length oc4] X fun e w' => (∃ v, e = .returned v ∧ w'.ownsRow X.heap.size 61 2 v (keep (p.told ++ os')).length (flatT (keep (p.told ++ os')))) ∧ Below X.heap.size X w') := fun X hX => lastTold _ _ _ _ _ _ p.told os' X (IsTlds.below (tO_row hP4.und.told (IsTlds.goods HP.out.2.2.2)) hX) (IsTlds.below (tO_row hP4.und.out HWF.out.2.2.1) hX) (by have := HPO.out.told60; omega) (by have := HWF.out.2.2.2; omega) (by have := HPO.out.told60; have := HWF.out.2.2.2; omega)
    have c0 : w4.cell? ⟨w2.heap.size, 0, none⟩ = some (.slice oa4 os'.length oc4) := by rw [hP4.out.cell]; rfl
    obtain ⟨q0, q1, q2, q3, q4, q5, q6, q7, q8, qf⟩ := nineOf hP4.box
    clear hru hP4 hF4 hK4 HDO2 HPN HXA HBA q0 q1 q2 q3 q4 q5 q7 q8
    go_wp2_with fail
    refine wp_frameU _ (frameR w3.heap.size w2.heap.size (w.heap.size + 1)) (fun _ => undef) (by kernel_rfl) fun T => ?_
    refine RI.wp_region_inv2 (by kernel_rfl) (by kernel_rfl) (InvR w4 w3.heap.size w2.heap.size (w.heap.size + 1) (.slice a6 p.told.length k6) (.slice oa4 os'.length oc4) (keep (p.told ++ os')) T) ⟨_, w4.drew, rfl, fun j _ _ h => by (rw [RI.up_new] at h; cases h), (Below.refl _ _).drew, fun h => by (rw [RI.up_new] at h; cases h), by rw [RI.up_new]; rfl⟩ (fun i o listed act W' hi hs hl haft hcl hinv => ?_) (fun listed act W' hs hall hinv => ?_)
    case refine_1 =>
      obtain ⟨xs, W0, rfl, hX, hB, hD, hW⟩ := hinv
      have hi12 : i < 12 := (Array.getElem?_eq_some_iff.1 hi).1
      rcases (show i = 0 ∨ i = 1 ∨ i = 2 ∨ i = 3 ∨ i = 4 ∨ i = 5 ∨ i = 6 ∨ i = 7 ∨ i = 8 ∨ i = 9 ∨ i = 10 ∨ i = 11 by omega) with rfl | rfl | rfl | rfl | rfl | rfl | rfl | rfl | rfl | rfl | rfl | rfl
      · have ho' := Option.some.inj hi
        subst ho'
        have l11 : listed.getD 11 false = false := hcl.not 20 (by kernel_rfl) hl
        rw [l11] at hW
        obtain rfl : W' = W0 := hW
        exact RI.op_val (d := some 29) (v := .pointer (some ⟨w3.heap.size, 0, none⟩)) hi (by kernel_rfl) rfl (by simp [go_sem, frameR, OkR]) (InvR.val hX hB hD l11 0 (by omega) (by omega) rfl (by kernel_rfl))
      · have ho' := Option.some.inj hi
        subst ho'
        have l11 : listed.getD 11 false = false := hcl.not 20 (by kernel_rfl) hl
        rw [l11] at hW
        obtain rfl : W' = W0 := hW
        exact RI.op_val (d := some 30) (v := .pointer (some ⟨w3.heap.size, 0, none⟩)) hi (by kernel_rfl) rfl (by simp [go_sem, frameR, OkR]) (InvR.val hX hB hD l11 1 (by omega) (by omega) rfl (by kernel_rfl))
      · have ho' := Option.some.inj hi
        subst ho'
        have l11 : listed.getD 11 false = false := hcl.not 20 (by kernel_rfl) hl
        rw [l11] at hW
        obtain rfl : W' = W0 := hW
        have e1 := hX 1 (by omega) (by omega) (RI.dep haft 1 (by kernel_rfl))
        exact RI.op_val (d := some 31) (v := .pointer (some ⟨w3.heap.size, 0, none⟩)) hi (by kernel_rfl) rfl (by simp [go_sem, frameR, e1, OkR]) (InvR.val hX hB hD l11 2 (by omega) (by omega) rfl (by kernel_rfl))
      · have ho' := Option.some.inj hi
        subst ho'
        have l11 : listed.getD 11 false = false := hcl.not 20 (by kernel_rfl) hl
        rw [l11] at hW
        obtain rfl : W' = W0 := hW
        have e2 := hX 2 (by omega) (by omega) (RI.dep haft 2 (by kernel_rfl))
        exact RI.op_val (d := some 32) (v := .pointer (some ⟨w3.heap.size, 0, none⟩)) hi (by kernel_rfl) rfl (by simp [go_sem, frameR, e2, OkR]) (InvR.val hX hB hD l11 3 (by omega) (by omega) rfl (by kernel_rfl))
      · have ho' := Option.some.inj hi
        subst ho'
        have l11 : listed.getD 11 false = false := hcl.not 20 (by kernel_rfl) hl
        rw [l11] at hW
        obtain rfl : W' = W0 := hW
        have e3 := hX 3 (by omega) (by omega) (RI.dep haft 3 (by kernel_rfl))
        exact RI.op_val (d := some 33) (v := .pointer (some ⟨w3.heap.size, 6, none⟩)) hi (by kernel_rfl) rfl (by simp [go_sem, frameR, e3, OkR]) (InvR.val hX hB hD l11 4 (by omega) (by omega) rfl (by kernel_rfl))
      · have ho' := Option.some.inj hi
        subst ho'
        have l11 : listed.getD 11 false = false := hcl.not 20 (by kernel_rfl) hl
        rw [l11] at hW
        obtain rfl : W' = W0 := hW
        have e4 := hX 4 (by omega) (by omega) (RI.dep haft 4 (by kernel_rfl))
        exact RI.op_val (d := some 34) (v := .slice a6 p.told.length k6) hi (by kernel_rfl) rfl (by simp [go_sem, frameR, e4, OkR, cellB q6 hB]) (InvR.val hX hB hD l11 5 (by omega) (by omega) rfl (by kernel_rfl))
      · have ho' := Option.some.inj hi
        subst ho'
        have l11 : listed.getD 11 false = false := hcl.not 20 (by kernel_rfl) hl
        rw [l11] at hW
        obtain rfl : W' = W0 := hW
        exact RI.op_val (d := some 35) (v := .slice oa4 os'.length oc4) hi (by kernel_rfl) rfl (by simp [go_sem, frameR, OkR, cellB c0 hB]) (InvR.val hX hB hD l11 6 (by omega) (by omega) rfl (by kernel_rfl))
      · have ho' := Option.some.inj hi
        subst ho'
        have l11 : listed.getD 11 false = false := hcl.not 20 (by kernel_rfl) hl
        rw [l11] at hW
        obtain rfl : W' = W0 := hW
        have e5 := hX 5 (by omega) (by omega) (RI.dep haft 5 (by kernel_rfl))
        have e6 := hX 6 (by omega) (by omega) (RI.dep haft 6 (by kernel_rfl))
        refine RI.op_one hi (by kernel_rfl) fun KK hKK => ?_
        refine wp_callTwo (HLT.out W' hB) (fun e w' hr => ?_) (enters_of Tryz.func54 (by kernel_rfl) rfl) _ _ _ (d := some 36) rfl rfl ((show _ = xs 5 by kernel_rfl).trans e5) ((show _ = xs 6 by kernel_rfl).trans e6) ?_
        · obtain ⟨⟨v, e, _⟩, _⟩ := hr
          exact ⟨_, e⟩
        · intro r w' hr
          obtain ⟨⟨v, e, hv⟩, hb⟩ := hr
          injection e with e
          subst e
          exact hKK _ _ ⟨updU xs 7 r, w', by kernel_rfl, fun j hj hj7 hl2 => by rw [updU_else xs _ hj7]; exact hX j hj hj7 (by rwa [RI.up_else hj7] at hl2), bcall hB hB.size hb, fun _ => by rw [updU_same]; exact Cal.own_base hv hB.size, by rw [RI.up_else (by omega), l11]; rfl⟩
      · have ho' := Option.some.inj hi
        subst ho'
        have l11 : listed.getD 11 false = false := hcl.not 20 (by kernel_rfl) hl
        rw [l11] at hW
        obtain rfl : W' = W0 := hW
        have e0 := hX 0 (by omega) (by omega) (RI.dep haft 0 (by kernel_rfl))
        exact RI.op_val (d := some 37) (v := .pointer (some ⟨w3.heap.size, 0, none⟩)) hi (by kernel_rfl) rfl (by simp [go_sem, frameR, e0, OkR]) (InvR.val hX hB hD l11 8 (by omega) (by omega) rfl (by kernel_rfl))
      · have ho' := Option.some.inj hi
        subst ho'
        have l11 : listed.getD 11 false = false := hcl.not 20 (by kernel_rfl) hl
        rw [l11] at hW
        obtain rfl : W' = W0 := hW
        have e8 := hX 8 (by omega) (by omega) (RI.dep haft 8 (by kernel_rfl))
        exact RI.op_val (d := some 38) (v := .pointer (some ⟨w3.heap.size, 0, none⟩)) hi (by kernel_rfl) rfl (by simp [go_sem, frameR, e8, OkR]) (InvR.val hX hB hD l11 9 (by omega) (by omega) rfl (by kernel_rfl))
      · have ho' := Option.some.inj hi
        subst ho'
        have l11 : listed.getD 11 false = false := hcl.not 20 (by kernel_rfl) hl
        rw [l11] at hW
        obtain rfl : W' = W0 := hW
        have e9 := hX 9 (by omega) (by omega) (RI.dep haft 9 (by kernel_rfl))
        exact RI.op_val (d := some 39) (v := .pointer (some ⟨w3.heap.size, 6, none⟩)) hi (by kernel_rfl) rfl (by simp [go_sem, frameR, e9, OkR]) (InvR.val hX hB hD l11 10 (by omega) (by omega) rfl (by kernel_rfl))
      · have ho' := Option.some.inj hi
        subst ho'
        have l11 : listed.getD 11 false = false := RI.not_up hl
        rw [l11] at hW
        obtain rfl : W' = W0 := hW
        have e10 := hX 10 (by omega) (by omega) (RI.dep haft 10 (by kernel_rfl))
        have h7 := hD (RI.dep haft 7 (by kernel_rfl))
        obtain ⟨a7, k7, e7⟩ := own_form h7
        have z6 := cellB q6 hB
        have zf : W'.frozen? ⟨w3.heap.size, 6, none⟩ = false := (HP4.out.box.below hB).frozen 6
        refine RI.op_one hi (by kernel_rfl) fun KK hKK => ?_
        have hk := hKK (frameR w3.heap.size w2.heap.size (w.heap.size + 1) T xs) (W'.setCell ⟨w3.heap.size, 6, none⟩ (xs 7)) ⟨xs, W', rfl, fun j hj hj7 hl2 => hX j hj hj7 (by rwa [RI.up_else (by omega)] at hl2), hB, fun _ => h7, by rw [RI.up_same (by rw [hs]; decide), if_pos rfl]⟩
        rw [e7] at hk
        simp only [OkR] at e10
        simp only [frameR, e10, e7] at hk ⊢
        go_simp
        exact hk
    case refine_2 =>
      obtain ⟨xs, W0, rfl, hX, hB, hD, hW⟩ := hinv
      have l7 : listed.getD 7 false = true := by have := hall 7 (by decide); simpa [Array.getD, hs] using this
      have l11 : listed.getD 11 false = true := by have := hall 11 (by decide); simpa [Array.getD, hs] using this
      rw [l11, if_pos rfl] at hW
      have hv7 := hD l7
      generalize xs 7 = v7 at hW hv7
      obtain ⟨a7, k7, rfl⟩ := own_form hv7
      subst hW
      have hbx0 := HP4.out.box.below hB
      have HS5 : Hid (SameP W0 (W0.setCell ⟨w3.heap.size, 6, none⟩ (.slice a7 (keep (p.told ++ os')).length k7))) := SameP.setBox hbx0 ⟨neP.2.2.2.2.2.1, neP.2.1, neP.2.2.1⟩ 6 _
      have HN5 : Hid (Holds (W0.setCell ⟨w3.heap.size, 6, none⟩ (.slice a7 (keep (p.told ++ os')).length k7)) w3.heap.size 84 #[.slice a0 p.rs.length k0, .int .i64 p.pol, .int .i64 p.win, .int .i64 last', .slice ga4 gs'.length gc4, .slice wa4 ws'.length wc4, .slice a7 (keep (p.told ++ os')).length k7, .iface (polT p.pol) (polV p.pol), tellF w2.heap.size]) := hbx0.set 6 _
      have HO5 : Hid (Holds (W0.setCell ⟨w3.heap.size, 6, none⟩ (.slice a7 (keep (p.told ++ os')).length k7)) w2.heap.size 29 #[.slice oa4 os'.length oc4]) := holds_else (HP4.out.out.below hB) (by omega) 6 _
      have HX5 : Hid (Holds (W0.setCell ⟨w3.heap.size, 6, none⟩ (.slice a7 (keep (p.told ++ os')).length k7)) (w.heap.size + 1) 31 #[.slice none 0 0, .int .i64 0, .int .i64 0, .int .i64 0, .slice none 0 0, .slice none 0 0, .slice none 0 0]) := holds_else (HX4.out.below hB) (by have := HB3.out.2; omega) 6 _
      have HB5 : Hid (Below w.heap.size w (W0.setCell ⟨w3.heap.size, 6, none⟩ (.slice a7 (keep (p.told ++ os')).length k7))) := (bcall HB4.out HB4.out.size hB).setCell (p := ⟨w3.heap.size, 6, none⟩) (by have := HB3.out.2; simp only; omega) _
      have HGP : Hid (GathPV W0 w.heap.size (.slice a0 p.rs.length k0) vs (.slice ga4 gs'.length gc4) (.slice wa4 ws'.length wc4) (.slice a7 (keep (p.told ++ os')).length k7) ⟨p.rs, p.pol, p.win, last', gs', ws', keep (p.told ++ os')⟩ ∧ W0.ownsRow w.heap.size 61 2 (.slice oa4 os'.length oc4) os'.length (flatT os') ∧ ∀ b, (Value.slice a7 (keep (p.told ++ os')).length k7).ownBlock = some b → (Value.slice oa4 os'.length oc4).ownBlock ≠ some b) := by
        have ho := HP4.out.own
        have hlow : w.heap.size ≤ w2.heap.size := by have := HB3.out.2; omega
        have inS : ∀ i (hi : i < vs.length), ∀ b, vs[i].ownBlock = some b → w2.heap.size < b ∧ b < F := fun i hi b e => ⟨(World.ownsRow.lt (HW0.out.2.2.1.2.2.1 i (by have := HW0.out.2.2.1.1; omega)).1 b e).1, HW0.out.2.2.2 i hi b e⟩
        refine ⟨⟨gathV_base (GathV_same HG4.out (SameP.below hB).toT) (by omega), ⟨Cal.own_base (own_same ho.g (SameP.below hB) (.inr (.inl rfl))) hlow, HWF.out.1⟩, ⟨Cal.own_base (own_same ho.w (SameP.below hB) (.inr (.inl rfl))) hlow, HWF.out.2.1⟩, ⟨Cal.own_base hv7 (by have := HB4.out.size; omega), fun i hi => goods_keep (goods_app (IsTlds.goods HP.out.2.2.2) HWF.out.2.2.1) _ (List.getElem_mem hi)⟩, fun b e => ⟨fun e2 => HP4.out.und.ap1 b (nz_row ho.g ho.ng e) (nz_row ho.w ho.nw e2), fun i hi e2 => HP4.out.freeG b (nz_row ho.g ho.ng e) (inS i hi b e2)⟩, fun b e i hi e2 => HP4.out.freeW b (nz_row ho.w ho.nw e) (inS i hi b e2)⟩, Cal.own_base (own_same ho.o (SameP.below hB) (.inr (.inr rfl))) hlow, fun b e e2 => ?_⟩
        have h1 := (World.ownsRow.lt hv7 b e).1
        have h2 := (World.ownsRow.lt ho.o b e2).2
        omega
      clear hbx0 hX hD hv7 hB hs hall l7 l11 c0 q6 qf
      generalize hW5 : W0.setCell ⟨w3.heap.size, 6, none⟩ (.slice a7 (keep (p.told ++ os')).length k7) = w5 at HS5 HN5 HO5 HX5 HB5 ⊢
      clear hW5
      obtain ⟨q0, q1, q2, q3, q4, q5, q6, q7, q8, qf⟩ := nineOf HN5.out
      have c0 : w5.cell? ⟨w2.heap.size, 0, none⟩ = some (.slice oa4 os'.length oc4) := by rw [HO5.out.cell]; rfl
      obtain ⟨b0, b1, b2, b3, b4, b5, b6, bf⟩ := sevenOf HX5.out
      have n1 : ¬ w2.heap.size = w.heap.size + 1 := by have := HB3.out.2; omega
      have n2 : ¬ w.heap.size + 1 = w2.heap.size := by have := HB3.out.2; omega
      have n3 : ¬ w3.heap.size = w.heap.size + 1 := by have := HB3.out.2; omega
      have n4 : ¬ w.heap.size + 1 = w3.heap.size := by have := HB3.out.2; omega
      simp only [frameR]
      go_wp2_with fail
      go_region
      go_wp2_with fail
      obtain ⟨h7H, h7⟩ := fill7H HX5.out (.slice a0 p.rs.length k0) (.int .i64 p.pol) (.int .i64 p.win) (.int .i64 last') (.slice ga4 gs'.length gc4) (.slice wa4 ws'.length wc4) (.slice a7 (keep (p.told ++ os')).length k7)
      have hB7 := below7U HB5.out (N := w.heap.size + 1) (by omega) (.slice a0 p.rs.length k0) (.int .i64 p.pol) (.int .i64 p.win) (.int .i64 last') (.slice ga4 gs'.length gc4) (.slice wa4 ws'.length wc4) (.slice a7 (keep (p.told ++ os')).length k7)
      generalize hWz : ((((((w5.setCell ⟨w.heap.size + 1, 0, none⟩ (.slice a0 p.rs.length k0)).setCell ⟨w.heap.size + 1, 1, none⟩ (.int .i64 p.pol)).setCell ⟨w.heap.size + 1, 2, none⟩ (.int .i64 p.win)).setCell ⟨w.heap.size + 1, 3, none⟩ (.int .i64 last')).setCell ⟨w.heap.size + 1, 4, none⟩ (.slice ga4 gs'.length gc4)).setCell ⟨w.heap.size + 1, 5, none⟩ (.slice wa4 ws'.length wc4)).setCell ⟨w.heap.size + 1, 6, none⟩ (.slice a7 (keep (p.told ++ os')).length k7) = wz at h7H h7 hB7 ⊢
      clear hWz b0 b1 b2 b3 b4 b5 b6 bf q0 q1 q2 q3 q4 q5 q6 q7 q8 qf c0
      have hHd : Holds wz.drew (w.heap.size + 1) 31 #[.slice a0 p.rs.length k0, .int .i64 p.pol, .int .i64 p.win, .int .i64 last', .slice ga4 gs'.length gc4, .slice wa4 ws'.length wc4, .slice a7 (keep (p.told ++ os')).length k7] := h7H
      obtain ⟨b0, b1, b2, b3, b4, b5, b6, _⟩ := sevenOf hHd
      refine bodyPost_ret (v := .tuple #[.agg #[.slice a0 p.rs.length k0, .int .i64 p.pol, .int .i64 p.win, .int .i64 last', .slice ga4 gs'.length gc4, .slice wa4 ws'.length wc4, .slice a7 (keep (p.told ++ os')).length k7], .slice oa4 os'.length oc4]) ?_ rfl ?_
      · simp [results, Tryz.results28, go_sem, b0, b1, b2, b3, b4, b5, b6]
      · rw [HR.out]
        have hsz : SameP W0 wz.drew := HS5.out.trans (h7.trans (SameP.below (Below.refl _ _).drew))
        exact ⟨⟨_, vs, _, _, _, _, rfl, HGP.out.1.same hsz, own_same HGP.out.2.1 hsz (.inr (.inr rfl)), HWF.out.2.2.1, HGP.out.2.2⟩, hB7.drew⟩
  · have hok' : planOk p = false := by simpa using hok
    have HR : Hid _ := HR2.out hok
    rw [hok']
    clear hok hok' HR1 HR2 HDO
    obtain ⟨b0, b1, b2, b3, b4, b5, b6, bf⟩ := sevenOf HX1.out.2
    go_wp2_with fail
    obtain ⟨h7H, h7⟩ := fill7H HX1.out.2 (.slice none 0 0) (.int .i64 0) (.int .i64 0) (.int .i64 0) (.slice none 0 0) (.slice none 0 0) (.slice none 0 0)
    obtain ⟨q0, q1, q2, q3, q4, q5, q6, _⟩ := sevenOf h7H
    refine bodyPost_ret (v := .tuple #[.agg #[.slice none 0 0, .int .i64 0, .int .i64 0, .int .i64 0, .slice none 0 0, .slice none 0 0, .slice none 0 0], .slice none 0 0]) ?_ rfl ?_
    · simp [results, Tryz.results28, go_sem, q0, q1, q2, q3, q4, q5, q6]
    · rw [HR.out]
      exact ⟨⟨_, [], _, _, _, _, rfl, gathPV_none _ _, World.ownsRow_nil _ _ _ _, (fun t ht => nomatch ht), fun b e => by simp [Value.ownBlock] at e⟩, below7 HB1.out.1 (by omega) _ _ _ _ _ _ _⟩
end Pl
end Go.Proofs.YtghocdiddolinaaGreatDoor
