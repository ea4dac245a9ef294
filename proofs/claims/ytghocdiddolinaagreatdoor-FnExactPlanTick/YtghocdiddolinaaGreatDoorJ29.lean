/- The model's PlanTick. -/
import Derived.Test.YtghocdiddolinaaGreatDoorJ19
import Derived.Test.YtghocdiddolinaaGreatDoorJ25
import Derived.Test.YtghocdiddolinaaGreatDoorJ27
import Derived.Test.YtghocdiddolinaaGreatDoorJ28
namespace Go.Proofs.YtghocdiddolinaaGreatDoor
set_option linter.unusedVariables false
set_option linter.unusedSimpArgs false
open Go.RowKit Go
namespace Pl
open Dr (ButO rowB rowB_own rowB_pos)

theorem InS.base {w : World} {b b' : Nat} {u : Value} {zs : List Int} (h : InS w b u zs) (hb : b' ≤ b) : InS w b' u zs := by
  rcases h with h | h
  · exact .inl h
  · exact .inr (Cal.own_base h hb)
theorem GathS.base {w : World} {b b' : Nat} {v : Value} {vs : List Value} {es : List Rul} (h : GathS w b v vs es) (hb : b' ≤ b) : GathS w b' v vs es := by
  obtain ⟨h1, h2, h3⟩ := h
  exact ⟨h1, Cal.own_base h2 hb, fun i hi => ⟨(h3 i hi).1.base hb, (h3 i hi).2⟩⟩
theorem und_join {wr w9 : World} {F F' F0 : Nat} {vg vw vt vo vg' vw' vt' vo' : Value} {gs ws gs' ws' : List Int} {ts ts' os : List Tld} (h : Und wr F vg vw vt vo gs ws ts os) (hb : Below wr.heap.size wr w9) (h' : Und w9 F' vg' vw' vt' vo' gs' ws' ts' []) (h1 : wr.heap.size ≤ F') (h2 : F0 ≤ F) (h3 : F0 ≤ F') : Und w9 F0 vg' vw' vt' vo gs' ws' ts' os where
  goes := h'.goes.base h3
  waits := h'.waits.base h3
  told := h'.told.base h3
  out := (h.below hb).out.base h2
  ap1 := h'.ap1
  ap2 := fun b e e2 => by have := (h'.told.block e).1; have := (h.out.block e2).2.1; omega
theorem rowB_zero (a : Option Addr) (n : Nat) : rowB (.slice a n 0) = none := by cases a <;> simp [rowB]
theorem Und.start {w : World} {F F' : Nat} {vg vw vt : Value} {gs ws : List Int} {ts : List Tld} (h : Und w F vg vw vt (.slice none 0 0) gs ws ts []) (a : Option Addr) (hF : F' ≤ F) : Und w F' vg vw vt (.slice a 0 0) gs ws ts [] where
  goes := h.goes.base hF
  waits := h.waits.base hF
  told := h.told.base hF
  out := .inl ⟨rfl, a, rfl⟩
  ap1 := h.ap1
  ap2 := fun b _ e2 => by rw [rowB_zero] at e2; cases e2
theorem butO_row {w : World} {F : Nat} {a : Option Addr} {n c : Nat} {zs : List Int} (h : ButO w F (.slice a n c) zs) (hz : Wfs zs) : IsRow .i64 w a n c zs := by
  obtain ⟨a', c', e, hr, _⟩ := h.is hz
  simp only [Value.slice.injEq] at e
  obtain ⟨rfl, rfl, rfl⟩ := e
  exact hr
theorem tO_row {w : World} {F : Nat} {a : Option Addr} {n c : Nat} {ts : List Tld} (h : TO w F (.slice a n c) ts) (hz : Goods ts) : IsTlds w a n c ts := by
  obtain ⟨a', c', e, hr⟩ := h.is (fun i hi => hz _ (List.getElem_mem hi))
  simp only [Value.slice.injEq] at e
  obtain ⟨rfl, rfl, rfl⟩ := e
  exact hr
/-- How much is to come. -/
def meas (x : Int) : Nat := if x < 0 then 0 else (100001 - x).toNat
/-- What PlanTick leaves. -/
def TickPost (w0 : World) (p : Pla) (os : List Tld) (e : Ending) (w' : World) : Prop :=
  (∃ av cv vs vg vw vt vo, e = .returned (.tuple #[.agg #[.slice av p.rs.length cv, .int .i64 p.pol, .int .i64 p.win, .int .i64 p.last, vg, vw, vt], vo]) ∧ GathS w' w0.heap.size (.slice av p.rs.length cv) vs p.rs ∧ Und w' w0.heap.size vg vw vt vo p.goes p.waits p.told os) ∧ Below w0.heap.size w0 w'
theorem IsTlds.goods {w : World} {a : Option Addr} {n c : Nat} {ts : List Tld} (h : IsTlds w a n c ts) : Goods ts := fun t ht => by
  obtain ⟨i, hi, rfl⟩ := List.mem_iff_getElem.1 ht
  obtain ⟨_, _, _, _, _, _, _, h1, h2⟩ := IsTlds.at h hi
  exact ⟨h1, h2⟩
theorem nextOf {rs : List Rul} (hok : calOk rs = true) (a : Option Addr) (len cap : Nat) (t : Int) (ht : -1 ≤ t ∧ t ≤ 100000) (w : World) (h : IsRuls w a len cap rs) : Calls Tryz.prog 22 #[.slice a len cap, .int .i64 t] w fun e w' => e = .returned (.int .i64 (calNext rs t)) ∧ Below w.heap.size w w' :=
  (l41Next a len cap rs t w h (calOk_rules hok) ht).mono fun e w' ⟨⟨n, he, hn⟩, hb⟩ => ⟨by rw [he, calNext_eq (show IsNext rs t n from hn.congr (ofTo_due hok))], hb⟩
theorem gruls {W : World} {base : Nat} {av : Option Addr} {n cv : Nat} {vs : List Value} {rs : List Rul} (h : GathS W base (.slice av n cv) vs rs) : IsRuls W av n cv rs := by
  obtain ⟨a, c, e, hr⟩ := h.ruls
  simp only [Value.slice.injEq] at e
  obtain ⟨rfl, rfl, rfl⟩ := e
  exact hr

set_option maxRecDepth 4000 in
set_option maxHeartbeats 4000000 in
theorem specPlanTick (ra : Option Addr) (rl rc : Nat) (ga : Option Addr) (gl gc : Nat) (wa : Option Addr) (wl wk : Nat) (ta : Option Addr) (tl tc : Nat) (p : Pla) (now : Int) (w : World) (hp : IsPla w ra rl rc ga gl gc wa wl wk ta tl tc p) (hs : plaSmall p) :
    Calls Tryz.prog 6 #[.agg #[.slice ra rl rc, .int .i64 p.pol, .int .i64 p.win, .int .i64 p.last, .slice ga gl gc, .slice wa wl wk, .slice ta tl tc], .int .i64 now] w (TickPost w (tickP p now).1 (tickP p now).2) := by
  have hrl := (IsRecs.len hp.1).1
  have hgl := (hp.2.1.len).1
  have hwl := (hp.2.2.1.len).1
  have htl := (IsRecs.len hp.2.2.2).1
  subst hrl hgl hwl htl
  have HP : Hid (IsPla w ra p.rs.length rc ga p.goes.length gc wa p.waits.length wk ta p.told.length tc p) := hp
  have HSM : Hid (plaSmall p) := hs
  clear hp hs
  have HBX : Hid _ := boxes2_new w 31 31 #[.slice ra p.rs.length rc, .int .i64 p.pol, .int .i64 p.win, .int .i64 p.last, .slice ga p.goes.length gc, .slice wa p.waits.length wk, .slice ta p.told.length tc] #[.slice none 0 0, .int .i64 0, .int .i64 0, .int .i64 0, .slice none 0 0, .slice none 0 0, .slice none 0 0]
  have HB0 : Hid _ := ((Below.refl w.heap.size w).alloc (Nat.le_refl _) (.cells #[.slice ra p.rs.length rc, .int .i64 p.pol, .int .i64 p.win, .int .i64 p.last, .slice ga p.goes.length gc, .slice wa p.waits.length wk, .slice ta p.told.length tc] 31)).alloc (by simp) (.cells #[.slice none 0 0, .int .i64 0, .int .i64 0, .int .i64 0, .slice none 0 0, .slice none 0 0, .slice none 0 0] 31)
  go_enter Tryz.func6, Tryz.ntmps6
  go_wp2_with fail
  have HK : Hid (Calls Tryz.prog 20 #[.agg #[.slice ra p.rs.length rc, .int .i64 p.pol, .int .i64 p.win, .int .i64 p.last, .slice ga p.goes.length gc, .slice wa p.waits.length wk, .slice ta p.told.length tc]] (((w.alloc (.cells #[.slice ra p.rs.length rc, .int .i64 p.pol, .int .i64 p.win, .int .i64 p.last, .slice ga p.goes.length gc, .slice wa p.waits.length wk, .slice ta p.told.length tc] 31)).alloc (.cells #[.slice none 0 0, .int .i64 0, .int .i64 0, .int .i64 0, .slice none 0 0, .slice none 0 0, .slice none 0 0] 31)).alloc (.cells #[] 61)) fun e w'' => e = .returned (.bool (planOk p)) ∧ Below (((w.alloc (.cells #[.slice ra p.rs.length rc, .int .i64 p.pol, .int .i64 p.win, .int .i64 p.last, .slice ga p.goes.length gc, .slice wa p.waits.length wk, .slice ta p.told.length tc] 31)).alloc (.cells #[.slice none 0 0, .int .i64 0, .int .i64 0, .int .i64 0, .slice none 0 0, .slice none 0 0, .slice none 0 0] 31)).alloc (.cells #[] 61)).heap.size (((w.alloc (.cells #[.slice ra p.rs.length rc, .int .i64 p.pol, .int .i64 p.win, .int .i64 p.last, .slice ga p.goes.length gc, .slice wa p.waits.length wk, .slice ta p.told.length tc] 31)).alloc (.cells #[.slice none 0 0, .int .i64 0, .int .i64 0, .int .i64 0, .slice none 0 0, .slice none 0 0, .slice none 0 0] 31)).alloc (.cells #[] 61)) w'') := specPlanOk ra p.rs.length rc ga p.goes.length gc wa p.waits.length wk ta p.told.length tc p (((w.alloc (.cells #[.slice ra p.rs.length rc, .int .i64 p.pol, .int .i64 p.win, .int .i64 p.last, .slice ga p.goes.length gc, .slice wa p.waits.length wk, .slice ta p.told.length tc] 31)).alloc (.cells #[.slice none 0 0, .int .i64 0, .int .i64 0, .int .i64 0, .slice none 0 0, .slice none 0 0, .slice none 0 0] 31)).alloc (.cells #[] 61)) (HP.out.below (HB0.out.trans ((al_below _ _).mono (by simp; omega))))
  have HBW : Hid (Below w.heap.size w (((w.alloc (.cells #[.slice ra p.rs.length rc, .int .i64 p.pol, .int .i64 p.win, .int .i64 p.last, .slice ga p.goes.length gc, .slice wa p.waits.length wk, .slice ta p.told.length tc] 31)).alloc (.cells #[.slice none 0 0, .int .i64 0, .int .i64 0, .int .i64 0, .slice none 0 0, .slice none 0 0, .slice none 0 0] 31)).alloc (.cells #[] 61)) ∧ w.heap.size + 3 ≤ (((w.alloc (.cells #[.slice ra p.rs.length rc, .int .i64 p.pol, .int .i64 p.win, .int .i64 p.last, .slice ga p.goes.length gc, .slice wa p.waits.length wk, .slice ta p.told.length tc] 31)).alloc (.cells #[.slice none 0 0, .int .i64 0, .int .i64 0, .int .i64 0, .slice none 0 0, .slice none 0 0, .slice none 0 0] 31)).alloc (.cells #[] 61)).heap.size) := ⟨HB0.out.trans ((al_below _ _).mono (by simp; omega)), by simp⟩
  have HX0 : Hid (Holds (((w.alloc (.cells #[.slice ra p.rs.length rc, .int .i64 p.pol, .int .i64 p.win, .int .i64 p.last, .slice ga p.goes.length gc, .slice wa p.waits.length wk, .slice ta p.told.length tc] 31)).alloc (.cells #[.slice none 0 0, .int .i64 0, .int .i64 0, .int .i64 0, .slice none 0 0, .slice none 0 0, .slice none 0 0] 31)).alloc (.cells #[] 61)) w.heap.size 31 #[.slice ra p.rs.length rc, .int .i64 p.pol, .int .i64 p.win, .int .i64 p.last, .slice ga p.goes.length gc, .slice wa p.waits.length wk, .slice ta p.told.length tc] ∧ Holds (((w.alloc (.cells #[.slice ra p.rs.length rc, .int .i64 p.pol, .int .i64 p.win, .int .i64 p.last, .slice ga p.goes.length gc, .slice wa p.waits.length wk, .slice ta p.told.length tc] 31)).alloc (.cells #[.slice none 0 0, .int .i64 0, .int .i64 0, .int .i64 0, .slice none 0 0, .slice none 0 0, .slice none 0 0] 31)).alloc (.cells #[] 61)) (w.heap.size + 1) 31 #[.slice none 0 0, .int .i64 0, .int .i64 0, .int .i64 0, .slice none 0 0, .slice none 0 0, .slice none 0 0]) := ⟨HBX.out.1.below (al_below _ _), HBX.out.2.below (al_below _ _)⟩
  clear HBX HB0
  refine HK.out.mono ?_
  rintro e w1 ⟨rfl, hb1⟩
  have HX1 : Hid (Holds w1 w.heap.size 31 #[.slice ra p.rs.length rc, .int .i64 p.pol, .int .i64 p.win, .int .i64 p.last, .slice ga p.goes.length gc, .slice wa p.waits.length wk, .slice ta p.told.length tc] ∧ Holds w1 (w.heap.size + 1) 31 #[.slice none 0 0, .int .i64 0, .int .i64 0, .int .i64 0, .slice none 0 0, .slice none 0 0, .slice none 0 0]) := ⟨HX0.out.1.below hb1, HX0.out.2.below hb1⟩
  have HB1 : Hid (Below w.heap.size w w1 ∧ w.heap.size + 3 ≤ w1.heap.size) := ⟨bcall HBW.out.1 HBW.out.1.size hb1, Nat.le_trans HBW.out.2 hb1.size⟩
  clear HK HBW HX0 hb1
  obtain ⟨p0, p1, p2, p3, p4, p5, p6, pf⟩ := sevenOf HX1.out.1
  by_cases hok : planOk p = true
  · have HOK : Hid (planOk p = true) := hok
    have hPO := planOk_ok hok
    obtain ⟨hl1, hl2⟩ := hPO.last
    have HPO : Hid (PlanOk p) := hPO
    rw [hok]
    clear hok hPO
    go_wp2_with fail
    refine (copyU ra p.rs.length rc p.rs p.pol p.win p.last ga p.goes.length gc p.goes wa p.waits.length wk p.waits ta p.told.length tc p.told w1 (HP.out.below HB1.out.1).1 (HP.out.below HB1.out.1).2.1 (HP.out.below HB1.out.1).2.2.1 (HP.out.below HB1.out.1).2.2.2 (by have := HSM.out.1; omega) HSM.out.2.1 (by have := HSM.out.2.2.1; omega) (by have := HSM.out.2.2.2.1; omega) (by have := HSM.out.2.2.2.2; omega)).mono ?_
    rintro e w2 ⟨⟨av, cv, vs, vg, vw, vt, F, rfl, hF1, hF2, hRul, hU⟩, hb2⟩
    obtain ⟨g1, k1, rfl⟩ := hU.goes.form
    obtain ⟨g2, k2, rfl⟩ := hU.waits.form
    obtain ⟨g3, k3, rfl⟩ := hU.told.form
    go_upto_region 5 with fail
    have HRUL : Hid (∀ W, Below F (w2.alloc (.cells #[.slice av p.rs.length cv, .int .i64 p.pol, .int .i64 p.win, .int .i64 p.last, .slice g1 p.goes.length k1, .slice g2 p.waits.length k2, .slice g3 p.told.length k3] 31)) W → GathS W w1.heap.size (.slice av p.rs.length cv) vs p.rs) := fun W hb => hRul W (((al_below w2 _).mono hF2).trans hb)
    have HU : Hid (Und (w2.alloc (.cells #[.slice av p.rs.length cv, .int .i64 p.pol, .int .i64 p.win, .int .i64 p.last, .slice g1 p.goes.length k1, .slice g2 p.waits.length k2, .slice g3 p.told.length k3] 31)) F (.slice g1 p.goes.length k1) (.slice g2 p.waits.length k2) (.slice g3 p.told.length k3) (.slice none 0 0) p.goes p.waits p.told []) := hU.below (al_below _ _)
    have HX2 : Hid (Holds (w2.alloc (.cells #[.slice av p.rs.length cv, .int .i64 p.pol, .int .i64 p.win, .int .i64 p.last, .slice g1 p.goes.length k1, .slice g2 p.waits.length k2, .slice g3 p.told.length k3] 31)) w2.heap.size 31 #[.slice av p.rs.length cv, .int .i64 p.pol, .int .i64 p.win, .int .i64 p.last, .slice g1 p.goes.length k1, .slice g2 p.waits.length k2, .slice g3 p.told.length k3] ∧ Holds (w2.alloc (.cells #[.slice av p.rs.length cv, .int .i64 p.pol, .int .i64 p.win, .int .i64 p.last, .slice g1 p.goes.length k1, .slice g2 p.waits.length k2, .slice g3 p.told.length k3] 31)) (w.heap.size + 1) 31 #[.slice none 0 0, .int .i64 0, .int .i64 0, .int .i64 0, .slice none 0 0, .slice none 0 0, .slice none 0 0]) := ⟨heap_alloc_new _ _, (HX1.out.2.below hb2).below (al_below _ _)⟩
    have HB2 : Hid (Below w.heap.size w (w2.alloc (.cells #[.slice av p.rs.length cv, .int .i64 p.pol, .int .i64 p.win, .int .i64 p.last, .slice g1 p.goes.length k1, .slice g2 p.waits.length k2, .slice g3 p.told.length k3] 31))) := bcall (bcall HB1.out.1 HB1.out.1.size hb2) (HB1.out.1.trans (hb2.mono HB1.out.1.size)).size (al_below _ _)
    have HF : Hid (w.heap.size + 3 ≤ F ∧ F ≤ w2.heap.size ∧ w2.heap.size + 1 = (w2.alloc (.cells #[.slice av p.rs.length cv, .int .i64 p.pol, .int .i64 p.win, .int .i64 p.last, .slice g1 p.goes.length k1, .slice g2 p.waits.length k2, .slice g3 p.told.length k3] 31)).heap.size) := ⟨Nat.le_trans HB1.out.2 hF1, hF2, by simp⟩
    have HSZ : Hid (w.heap.size + 3 ≤ w1.heap.size ∧ w1.heap.size ≤ w2.heap.size) := ⟨HB1.out.2, hb2.size⟩
    have hnl : w.heap.size + 1 < w2.heap.size := by have := HSZ.out; omega
    clear hRul hU hb2 hF1 hF2 HX1 p0 p1 p2 p3 p4 p5 p6 pf
    generalize hn7 : w2.heap.size = n7 at HF HX2 HSZ hnl ⊢
    generalize hW3 : w2.alloc (.cells #[.slice av p.rs.length cv, .int .i64 p.pol, .int .i64 p.win, .int .i64 p.last, .slice g1 p.goes.length k1, .slice g2 p.waits.length k2, .slice g3 p.told.length k3] 31) = w3 at HRUL HU HX2 HB2 HF ⊢
    clear hn7 hW3 w2
    obtain ⟨x0, x1, x2, x3, x4, x5, x6, xf⟩ := sevenOf HX2.out.1
    by_cases h1 : now ≤ p.last ∨ 100000 < now
    · have HT : Hid (tickP p now = (p, [])) := by show tickP p now = _; unfold tickP; rw [if_pos HOK.out, if_pos h1]
      obtain ⟨b0, b1, b2, b3, b4, b5, b6, bf⟩ := sevenOf HX2.out.2
      obtain ⟨h7H, h7⟩ := fill7H HX2.out.2 (.slice av p.rs.length cv) (.int .i64 p.pol) (.int .i64 p.win) (.int .i64 p.last) (.slice g1 p.goes.length k1) (.slice g2 p.waits.length k2) (.slice g3 p.told.length k3)
      have HFIN : Hid (TickPost w (tickP p now).1 (tickP p now).2 (.returned (.tuple #[.agg #[.slice av p.rs.length cv, .int .i64 p.pol, .int .i64 p.win, .int .i64 p.last, .slice g1 p.goes.length k1, .slice g2 p.waits.length k2, .slice g3 p.told.length k3], .slice (some ⟨w.heap.size + 1 + 1, 0, none⟩) 0 0])) (((((((w3.setCell ⟨w.heap.size + 1, 0, none⟩ (.slice av p.rs.length cv)).setCell ⟨w.heap.size + 1, 1, none⟩ (.int .i64 p.pol)).setCell ⟨w.heap.size + 1, 2, none⟩ (.int .i64 p.win)).setCell ⟨w.heap.size + 1, 3, none⟩ (.int .i64 p.last)).setCell ⟨w.heap.size + 1, 4, none⟩ (.slice g1 p.goes.length k1)).setCell ⟨w.heap.size + 1, 5, none⟩ (.slice g2 p.waits.length k2)).setCell ⟨w.heap.size + 1, 6, none⟩ (.slice g3 p.told.length k3))) := by
        rw [HT.out]
        exact ⟨⟨av, cv, vs, _, _, _, _, rfl, ((HRUL.out w3 (Below.refl _ _)).sameP h7).base HB1.out.1.size, (HU.out.same h7).start _ (by have := HF.out.1; omega)⟩, below7 HB2.out (by omega) _ _ _ _ _ _ _⟩
      have HQ : Hid _ := sevenOf h7H
      clear h7H h7
      by_cases h2 : now ≤ p.last
      · go_wp2_with fail
        obtain ⟨q0, q1, q2, q3, q4, q5, q6, _⟩ := HQ.out
        refine bodyPost_ret (v := .tuple #[.agg #[.slice av p.rs.length cv, .int .i64 p.pol, .int .i64 p.win, .int .i64 p.last, .slice g1 p.goes.length k1, .slice g2 p.waits.length k2, .slice g3 p.told.length k3], .slice (some ⟨w.heap.size + 1 + 1, 0, none⟩) 0 0]) ?_ rfl HFIN.out
        simp [results, Tryz.results6, go_sem, q0, q1, q2, q3, q4, q5, q6]
      · have h3 : 100000 < now := by omega
        go_wp2_with fail
        obtain ⟨q0, q1, q2, q3, q4, q5, q6, _⟩ := HQ.out
        refine bodyPost_ret (v := .tuple #[.agg #[.slice av p.rs.length cv, .int .i64 p.pol, .int .i64 p.win, .int .i64 p.last, .slice g1 p.goes.length k1, .slice g2 p.waits.length k2, .slice g3 p.told.length k3], .slice (some ⟨w.heap.size + 1 + 1, 0, none⟩) 0 0]) ?_ rfl HFIN.out
        simp [results, Tryz.results6, go_sem, q0, q1, q2, q3, q4, q5, q6]
    · have HT : Hid (tickP p now = (⟨p.rs, p.pol, p.win, now, (late p now).1, (late p now).2.1, keep (p.told ++ (late p now).2.2)⟩, (late p now).2.2)) := by show tickP p now = _; unfold tickP; rw [if_pos HOK.out, if_neg h1]
      have h2 : ¬ now ≤ p.last := fun h => h1 (.inl h)
      have h3 : ¬ 100000 < now := fun h => h1 (.inr h)
      clear h1
      go_upto_region 8 with (go_at_call 22; refine (nextOf HPO.out.rules av p.rs.length cv p.last ⟨hl1, hl2⟩ _ (gruls (HRUL.out w3 (Below.refl _ _)))).mono ?_; rintro e w4 ⟨rfl, hb4⟩; have HB4 : Hid (Below w3.heap.size w3 w4) := hb4; have hx4 := Holds.below HX2.out.1 hb4; have HX4 : Hid _ := hx4; clear hb4 hx4)
      obtain ⟨x0, x1, x2, x3, x4, x5, x6, xf⟩ := sevenOf HX4.out
      go_wp2_with fail
      obtain ⟨z4, s4⟩ := box_set (cur' := #[.slice av p.rs.length cv, .int .i64 p.pol, .int .i64 p.win, .int .i64 now, .slice g1 p.goes.length k1, .slice g2 p.waits.length k2, .slice g3 p.told.length k3]) HX4.out 3 (.int .i64 now) rfl
      have HX5 : Hid _ := z4
      have HU5 : Hid (Und (w4.setCell ⟨n7, 3, none⟩ (.int .i64 now)) F (.slice g1 p.goes.length k1) (.slice g2 p.waits.length k2) (.slice g3 p.told.length k3) (.slice (some ⟨w.heap.size + 1 + 1, 0, none⟩) 0 0) p.goes p.waits p.told []) := ((HU.out.below HB4.out).same s4).start _ (Nat.le_refl _)
      have HZ5 : Hid (Holds (w4.setCell ⟨n7, 3, none⟩ (.int .i64 now)) (w.heap.size + 1) 31 #[.slice none 0 0, .int .i64 0, .int .i64 0, .int .i64 0, .slice none 0 0, .slice none 0 0, .slice none 0 0]) := holds_else (HX2.out.2.below HB4.out) (by omega) 3 _
      have HB5 : Hid (Below F w3 (w4.setCell ⟨n7, 3, none⟩ (.int .i64 now)) ∧ Below w.heap.size w (w4.setCell ⟨n7, 3, none⟩ (.int .i64 now))) := ⟨(HB4.out.mono (by have := HF.out; omega)).setCell (p := ⟨n7, 3, none⟩) (by have := HF.out; simp only; omega) _, (bcall HB2.out HB2.out.size HB4.out).setCell (p := ⟨n7, 3, none⟩) (by simp only; omega) _⟩
      clear HX2 HB2 HX4 HB4 z4 s4 x0 x1 x2 x3 x4 x5 x6 xf HU
      go_loopw [6, 8] (fun o t wr => ∃ (pre : List Int) (f : Nat) (prev x : Int) (vg vw vt : Value), t = .int .i64 x ∧ x = calNext p.rs prev ∧ dueL p.rs 100002 p.last = pre ++ dueL p.rs f prev ∧ Enough f prev ∧ (∀ y ∈ pre, y ≤ now) ∧ (-1 ≤ prev ∧ prev ≤ 100000) ∧ Und wr F vg vw vt o (looksAll p.pol p.win now p.goes p.waits pre).1 (looksAll p.pol p.win now p.goes p.waits pre).2.1 (keep (p.told ++ (looksAll p.pol p.win now p.goes p.waits pre).2.2)) (looksAll p.pol p.win now p.goes p.waits pre).2.2 ∧ Holds wr n7 31 #[.slice av p.rs.length cv, .int .i64 p.pol, .int .i64 p.win, .int .i64 now, vg, vw, vt] ∧ Holds wr (w.heap.size + 1) 31 #[.slice none 0 0, .int .i64 0, .int .i64 0, .int .i64 0, .slice none 0 0, .slice none 0 0, .slice none 0 0] ∧ Below F w3 wr ∧ Below w.heap.size w wr) (fun _ t _ => meas (intOf t))
      case atStart =>
        have e0 : keep (p.told ++ []) = p.told := by rw [List.append_nil]; exact keep_small HPO.out.told60
        exact ⟨[], 100002, p.last, calNext p.rs p.last, _, _, _, rfl, rfl, rfl, ⟨fun _ => Nat.le_refl _, fun _ => by omega⟩, (fun y h => nomatch h), ⟨hl1, hl2⟩, by simp only [looksAll]; rw [e0]; exact HU5.out, HX5.out, HZ5.out, HB5.out.1, HB5.out.2⟩
      case round =>
        obtain ⟨pre, f, prev, x, vg, vw, vt, rfl, hx, hd, hen, hle, hpv, hU, hX, hZ, hB, hB0⟩ := hrel
        clear HU5 HX5 HZ5 HB5
        have hbd := next_bd p.rs prev
        rw [← hx] at hbd
        obtain ⟨ga', gc', rfl⟩ := hU.goes.form
        obtain ⟨wa', wc', rfl⟩ := hU.waits.form
        obtain ⟨ta', tc', rfl⟩ := hU.told.form
        obtain ⟨oa', oc', rfl⟩ := hU.out.form
        have hfit := looksAll_fits (pol := p.pol) (win := p.win) (now := now) HPO.out.pol pre (g := p.goes) (w := p.waits) ⟨HPO.out.goesN, HPO.out.waitsN⟩
        have hlen := looksAll_len p.pol p.win now pre p.goes p.waits
        have hpl := pre_len hd
        have hkl := keep_len (p.told ++ (looksAll p.pol p.win now p.goes p.waits pre).2.2)
        have hsn0 := looksAll_snoc p.pol p.win now pre p.goes p.waits x
        have hend : (calNext p.rs prev < 0 ∨ now < calNext p.rs prev) → late p now = looksAll p.pol p.win now p.goes p.waits pre := fun h => by unfold late; rw [ticks_end hd hle h]
        have hwf := looksAll_wf (pol := p.pol) (win := p.win) (now := now) pre (g := p.goes) (w := p.waits) HP.out.2.1.wf HP.out.2.2.1.wf (fun n hn => wf_tick (by have := dueL_bd 100002 p.last n (by rw [hd]; exact List.mem_append_left _ hn); omega))
        generalize hS : looksAll p.pol p.win now p.goes p.waits pre = S at hU hX hfit hlen hkl hsn0 hend hwf
        obtain ⟨G, W, T⟩ := S
        simp only at hU hX hfit hlen hkl hsn0
        have HNUM : Hid (G.length ≤ 8 ∧ W.length ≤ 8 ∧ T.length ≤ 200004 ∧ (keep (p.told ++ T)).length ≤ 60) := by
          have hG := hfit.1
          have hW := hfit.2
          have hmG := mostG_bd p.pol
          have hmW := mostW_bd p.pol
          exact ⟨by omega, by omega, by omega, hkl⟩
        have HD : Hid (dueL p.rs 100002 p.last = pre ++ dueL p.rs f prev ∧ Enough f prev ∧ x = calNext p.rs prev) := ⟨hd, hen, hx⟩
        have HLE : Hid (∀ y ∈ pre, y ≤ now) := hle
        have HSN : Hid _ := hsn0
        have HWF : Hid (Wfs G ∧ Wfs W ∧ Goods (keep (p.told ++ T))) := ⟨hwf.1, hwf.2.1, goods_keep (goods_app (IsTlds.goods HP.out.2.2.2) hwf.2.2)⟩
        have HEND : Hid _ := hend
        have HU : Hid (Und wr F _ _ _ _ _ _ _ _) := hU
        clear hwf hd hen hle hsn0 hend hfit hlen hpl hkl hS hU
        have HX : Hid _ := hX
        have HZ : Hid _ := hZ
        have HB : Hid (Below F w3 wr) := hB
        have HB0 : Hid (Below w.heap.size w wr) := hB0
        clear hX hZ hB hB0
        have hFr : F ≤ wr.heap.size := by have := HB.out.size; have := HF.out; omega
        by_cases hx0 : 0 ≤ x
        · by_cases hn : x ≤ now
          · obtain ⟨f', hcons, hen'⟩ := dueL_cons (rs := p.rs) (t := prev) (by omega) HD.out.2.1
            rw [← hx] at hcons hen'
            have HDN : Hid (dueL p.rs f prev = x :: dueL p.rs f' x ∧ Enough f' x) := ⟨hcons, hen'⟩
            clear hcons hen' hx
            obtain ⟨x0, x1, x2, x3, x4, x5, x6, xf⟩ := sevenOf HX.out
            by_cases hlt : p.win < now - x
            · have HSN2 : Hid (looksAll p.pol p.win now p.goes p.waits (pre ++ [x]) = (G, W, T ++ [⟨x, 3⟩])) := by show looksAll p.pol p.win now p.goes p.waits (pre ++ [x]) = _; rw [HSN.out]; unfold looks; rw [if_pos hlt]
              go_wp2_with fail
              refine (tellsAt F av p.rs.length cv p.pol p.win now x 3 _ _ _ _ _ _ _ _ _ HU.out hFr (by have := HNUM.out; omega) (by have := HNUM.out; omega)).mono ?_
              rintro e w5 ⟨⟨vt', vo', rfl, hU5⟩, hb5, hpl5⟩
              rw [keep_keep, List.append_assoc] at hU5
              obtain ⟨ta5, tc5, rfl⟩ := hU5.told.form
              obtain ⟨oa5, oc5, rfl⟩ := hU5.out.form
              have HX5 : Hid (Holds w5 n7 31 _) := hpl5 _ _ HX.out
              obtain ⟨x0, x1, x2, x3, x4, x5, x6, xf⟩ := sevenOf HX5.out
              have HZ5 : Hid (Holds w5 (w.heap.size + 1) 31 #[.slice none 0 0, .int .i64 0, .int .i64 0, .int .i64 0, .slice none 0 0, .slice none 0 0, .slice none 0 0]) := (hb5.block _ (by have := HF.out; omega)).trans HZ.out
              have HB5 : Hid (Below F w3 w5 ∧ Below w.heap.size w w5) := ⟨HB.out.trans hb5, HB0.out.trans (hb5.mono (by have := HF.out; omega))⟩
              have HU5 : Hid (Und w5 F _ _ _ _ _ _ _ _) := hU5
              clear hpl5 hb5 hU5 HX HZ HB HB0 HU hFr
              go_wp2_with fail
              obtain ⟨h6H, h6⟩ := fill7H HX5.out (.slice av p.rs.length cv) (.int .i64 p.pol) (.int .i64 p.win) (.int .i64 now) (.slice ga' G.length gc') (.slice wa' W.length wc') (.slice ta5 (keep (p.told ++ (T ++ [⟨x, 3⟩]))).length tc5)
              have HB6 : Hid (Below F w3 (((((((w5.setCell ⟨n7, 0, none⟩ (.slice av p.rs.length cv)).setCell ⟨n7, 1, none⟩ (.int .i64 p.pol)).setCell ⟨n7, 2, none⟩ (.int .i64 p.win)).setCell ⟨n7, 3, none⟩ (.int .i64 now)).setCell ⟨n7, 4, none⟩ (.slice ga' G.length gc')).setCell ⟨n7, 5, none⟩ (.slice wa' W.length wc')).setCell ⟨n7, 6, none⟩ (.slice ta5 (keep (p.told ++ (T ++ [⟨x, 3⟩]))).length tc5)) ∧ Below w.heap.size w (((((((w5.setCell ⟨n7, 0, none⟩ (.slice av p.rs.length cv)).setCell ⟨n7, 1, none⟩ (.int .i64 p.pol)).setCell ⟨n7, 2, none⟩ (.int .i64 p.win)).setCell ⟨n7, 3, none⟩ (.int .i64 now)).setCell ⟨n7, 4, none⟩ (.slice ga' G.length gc')).setCell ⟨n7, 5, none⟩ (.slice wa' W.length wc')).setCell ⟨n7, 6, none⟩ (.slice ta5 (keep (p.told ++ (T ++ [⟨x, 3⟩]))).length tc5))) := ⟨below7 HB5.out.1 (by have := HF.out; omega) _ _ _ _ _ _ _, below7 HB5.out.2 (by omega) _ _ _ _ _ _ _⟩
              have HU6 : Hid (Und (((((((w5.setCell ⟨n7, 0, none⟩ (.slice av p.rs.length cv)).setCell ⟨n7, 1, none⟩ (.int .i64 p.pol)).setCell ⟨n7, 2, none⟩ (.int .i64 p.win)).setCell ⟨n7, 3, none⟩ (.int .i64 now)).setCell ⟨n7, 4, none⟩ (.slice ga' G.length gc')).setCell ⟨n7, 5, none⟩ (.slice wa' W.length wc')).setCell ⟨n7, 6, none⟩ (.slice ta5 (keep (p.told ++ (T ++ [⟨x, 3⟩]))).length tc5)) F (.slice ga' G.length gc') (.slice wa' W.length wc') (.slice ta5 (keep (p.told ++ (T ++ [⟨x, 3⟩]))).length tc5) _ _ _ _ _) := HU5.out.same h6
              have HZ6 : Hid (Holds (((((((w5.setCell ⟨n7, 0, none⟩ (.slice av p.rs.length cv)).setCell ⟨n7, 1, none⟩ (.int .i64 p.pol)).setCell ⟨n7, 2, none⟩ (.int .i64 p.win)).setCell ⟨n7, 3, none⟩ (.int .i64 now)).setCell ⟨n7, 4, none⟩ (.slice ga' G.length gc')).setCell ⟨n7, 5, none⟩ (.slice wa' W.length wc')).setCell ⟨n7, 6, none⟩ (.slice ta5 (keep (p.told ++ (T ++ [⟨x, 3⟩]))).length tc5)) (w.heap.size + 1) 31 #[.slice none 0 0, .int .i64 0, .int .i64 0, .int .i64 0, .slice none 0 0, .slice none 0 0, .slice none 0 0]) := (set7_else (by omega) _ _ _ _ _ _ _).trans HZ5.out
              have HX6 : Hid (Holds (((((((w5.setCell ⟨n7, 0, none⟩ (.slice av p.rs.length cv)).setCell ⟨n7, 1, none⟩ (.int .i64 p.pol)).setCell ⟨n7, 2, none⟩ (.int .i64 p.win)).setCell ⟨n7, 3, none⟩ (.int .i64 now)).setCell ⟨n7, 4, none⟩ (.slice ga' G.length gc')).setCell ⟨n7, 5, none⟩ (.slice wa' W.length wc')).setCell ⟨n7, 6, none⟩ (.slice ta5 (keep (p.told ++ (T ++ [⟨x, 3⟩]))).length tc5)) n7 31 #[.slice av p.rs.length cv, .int .i64 p.pol, .int .i64 p.win, .int .i64 now, .slice ga' G.length gc', .slice wa' W.length wc', .slice ta5 (keep (p.told ++ (T ++ [⟨x, 3⟩]))).length tc5]) := h6H
              clear HX5 x0 x1 x2 x3 x4 x5 x6 xf HB5 HU5 HZ5 h6 h6H
              generalize hW6 : (((((((w5.setCell ⟨n7, 0, none⟩ (.slice av p.rs.length cv)).setCell ⟨n7, 1, none⟩ (.int .i64 p.pol)).setCell ⟨n7, 2, none⟩ (.int .i64 p.win)).setCell ⟨n7, 3, none⟩ (.int .i64 now)).setCell ⟨n7, 4, none⟩ (.slice ga' G.length gc')).setCell ⟨n7, 5, none⟩ (.slice wa' W.length wc')).setCell ⟨n7, 6, none⟩ (.slice ta5 (keep (p.told ++ (T ++ [⟨x, 3⟩]))).length tc5)) = w6 at HB6 HU6 HZ6 HX6 ⊢
              clear hW6 w5
              obtain ⟨x0, x1, x2, x3, x4, x5, x6, xf⟩ := sevenOf HX6.out
              refine (nextOf HPO.out.rules av p.rs.length cv x (by omega) _ (gruls (HRUL.out w6 HB6.out.1))).mono ?_
              rintro e w7 ⟨rfl, hb7⟩
              have HB7 : Hid (Below w6.heap.size w6 w7) := hb7
              clear hb7 x0 x1 x2 x3 x4 x5 x6 xf
              go_wp2_with fail
              go_roundw
              case rel => exact ⟨pre ++ [x], f', x, calNext p.rs x, _, _, _, rfl, rfl, by rw [HD.out.1, HDN.out.1]; simp, HDN.out.2, fun y hy => (by
                rcases List.mem_append.1 hy with h | h
                · exact HLE.out y h
                · rw [List.mem_singleton.1 h]; exact hn), (by omega), (by rw [HSN2.out]; have h := HU6.out.below HB7.out; simp only [List.length_append, List.length_cons, List.length_nil, Nat.zero_add] at h ⊢; exact h), HX6.out.below HB7.out, HZ6.out.below HB7.out, HB6.out.1.trans (HB7.out.mono (by have := HB6.out.1.size; have := HF.out; omega)), bcall HB6.out.2 HB6.out.2.size HB7.out⟩
              case measure =>
                have hbd2 := next_bd p.rs x
                show meas (calNext p.rs x) < meas x
                unfold meas
                split <;> split <;> omega
            · have HSN2 : Hid (looksAll p.pol p.win now p.goes p.waits (pre ++ [x]) = ((comes p.pol G W x).1, (comes p.pol G W x).2.1, T ++ (comes p.pol G W x).2.2)) := by show looksAll p.pol p.win now p.goes p.waits (pre ++ [x]) = _; rw [HSN.out]; unfold looks; rw [if_neg hlt]
              go_wp2_with fail
              refine (comesU av p.rs.length cv p.pol p.win now _ _ _ _ _ _ _ _ x wr F HU.out hFr (by have := HNUM.out; omega) (by have := HNUM.out; omega) (by have := HNUM.out; omega) (by have := HNUM.out; omega)).mono ?_
              rintro e w5 ⟨⟨vg', vw', vt', vo', rfl, hU5⟩, hb5, hpl5⟩
              rw [keep_keep, List.append_assoc] at hU5
              obtain ⟨ga5, gc5, rfl⟩ := hU5.goes.form
              obtain ⟨wa5, wc5, rfl⟩ := hU5.waits.form
              obtain ⟨ta5, tc5, rfl⟩ := hU5.told.form
              obtain ⟨oa5, oc5, rfl⟩ := hU5.out.form
              generalize comes p.pol G W x = C at HSN2 hU5 ⊢
              obtain ⟨CG, CW, CT⟩ := C
              have HX5 : Hid (Holds w5 n7 31 _) := hpl5 _ _ HX.out
              obtain ⟨x0, x1, x2, x3, x4, x5, x6, xf⟩ := sevenOf HX5.out
              have HZ5 : Hid (Holds w5 (w.heap.size + 1) 31 #[.slice none 0 0, .int .i64 0, .int .i64 0, .int .i64 0, .slice none 0 0, .slice none 0 0, .slice none 0 0]) := (hb5.block _ (by have := HF.out; omega)).trans HZ.out
              have HB5 : Hid (Below F w3 w5 ∧ Below w.heap.size w w5) := ⟨HB.out.trans hb5, HB0.out.trans (hb5.mono (by have := HF.out; omega))⟩
              have HU5 : Hid (Und w5 F _ _ _ _ _ _ _ _) := hU5
              clear hpl5 hb5 hU5 HX HZ HB HB0 HU hFr
              go_wp2_with fail
              obtain ⟨h6H, h6⟩ := fill7H HX5.out (.slice av p.rs.length cv) (.int .i64 p.pol) (.int .i64 p.win) (.int .i64 now) (.slice ga5 CG.length gc5) (.slice wa5 CW.length wc5) (.slice ta5 (keep (p.told ++ (T ++ CT))).length tc5)
              have HB6 : Hid (Below F w3 (((((((w5.setCell ⟨n7, 0, none⟩ (.slice av p.rs.length cv)).setCell ⟨n7, 1, none⟩ (.int .i64 p.pol)).setCell ⟨n7, 2, none⟩ (.int .i64 p.win)).setCell ⟨n7, 3, none⟩ (.int .i64 now)).setCell ⟨n7, 4, none⟩ (.slice ga5 CG.length gc5)).setCell ⟨n7, 5, none⟩ (.slice wa5 CW.length wc5)).setCell ⟨n7, 6, none⟩ (.slice ta5 (keep (p.told ++ (T ++ CT))).length tc5)) ∧ Below w.heap.size w (((((((w5.setCell ⟨n7, 0, none⟩ (.slice av p.rs.length cv)).setCell ⟨n7, 1, none⟩ (.int .i64 p.pol)).setCell ⟨n7, 2, none⟩ (.int .i64 p.win)).setCell ⟨n7, 3, none⟩ (.int .i64 now)).setCell ⟨n7, 4, none⟩ (.slice ga5 CG.length gc5)).setCell ⟨n7, 5, none⟩ (.slice wa5 CW.length wc5)).setCell ⟨n7, 6, none⟩ (.slice ta5 (keep (p.told ++ (T ++ CT))).length tc5))) := ⟨below7 HB5.out.1 (by have := HF.out; omega) _ _ _ _ _ _ _, below7 HB5.out.2 (by omega) _ _ _ _ _ _ _⟩
              have HU6 : Hid (Und (((((((w5.setCell ⟨n7, 0, none⟩ (.slice av p.rs.length cv)).setCell ⟨n7, 1, none⟩ (.int .i64 p.pol)).setCell ⟨n7, 2, none⟩ (.int .i64 p.win)).setCell ⟨n7, 3, none⟩ (.int .i64 now)).setCell ⟨n7, 4, none⟩ (.slice ga5 CG.length gc5)).setCell ⟨n7, 5, none⟩ (.slice wa5 CW.length wc5)).setCell ⟨n7, 6, none⟩ (.slice ta5 (keep (p.told ++ (T ++ CT))).length tc5)) F (.slice ga5 CG.length gc5) (.slice wa5 CW.length wc5) (.slice ta5 (keep (p.told ++ (T ++ CT))).length tc5) _ _ _ _ _) := HU5.out.same h6
              have HZ6 : Hid (Holds (((((((w5.setCell ⟨n7, 0, none⟩ (.slice av p.rs.length cv)).setCell ⟨n7, 1, none⟩ (.int .i64 p.pol)).setCell ⟨n7, 2, none⟩ (.int .i64 p.win)).setCell ⟨n7, 3, none⟩ (.int .i64 now)).setCell ⟨n7, 4, none⟩ (.slice ga5 CG.length gc5)).setCell ⟨n7, 5, none⟩ (.slice wa5 CW.length wc5)).setCell ⟨n7, 6, none⟩ (.slice ta5 (keep (p.told ++ (T ++ CT))).length tc5)) (w.heap.size + 1) 31 #[.slice none 0 0, .int .i64 0, .int .i64 0, .int .i64 0, .slice none 0 0, .slice none 0 0, .slice none 0 0]) := (set7_else (by omega) _ _ _ _ _ _ _).trans HZ5.out
              have HX6 : Hid (Holds (((((((w5.setCell ⟨n7, 0, none⟩ (.slice av p.rs.length cv)).setCell ⟨n7, 1, none⟩ (.int .i64 p.pol)).setCell ⟨n7, 2, none⟩ (.int .i64 p.win)).setCell ⟨n7, 3, none⟩ (.int .i64 now)).setCell ⟨n7, 4, none⟩ (.slice ga5 CG.length gc5)).setCell ⟨n7, 5, none⟩ (.slice wa5 CW.length wc5)).setCell ⟨n7, 6, none⟩ (.slice ta5 (keep (p.told ++ (T ++ CT))).length tc5)) n7 31 #[.slice av p.rs.length cv, .int .i64 p.pol, .int .i64 p.win, .int .i64 now, .slice ga5 CG.length gc5, .slice wa5 CW.length wc5, .slice ta5 (keep (p.told ++ (T ++ CT))).length tc5]) := h6H
              clear HX5 x0 x1 x2 x3 x4 x5 x6 xf HB5 HU5 HZ5 h6 h6H
              generalize hW6 : (((((((w5.setCell ⟨n7, 0, none⟩ (.slice av p.rs.length cv)).setCell ⟨n7, 1, none⟩ (.int .i64 p.pol)).setCell ⟨n7, 2, none⟩ (.int .i64 p.win)).setCell ⟨n7, 3, none⟩ (.int .i64 now)).setCell ⟨n7, 4, none⟩ (.slice ga5 CG.length gc5)).setCell ⟨n7, 5, none⟩ (.slice wa5 CW.length wc5)).setCell ⟨n7, 6, none⟩ (.slice ta5 (keep (p.told ++ (T ++ CT))).length tc5)) = w6 at HB6 HU6 HZ6 HX6 ⊢
              clear hW6 w5
              obtain ⟨x0, x1, x2, x3, x4, x5, x6, xf⟩ := sevenOf HX6.out
              refine (nextOf HPO.out.rules av p.rs.length cv x (by omega) _ (gruls (HRUL.out w6 HB6.out.1))).mono ?_
              rintro e w7 ⟨rfl, hb7⟩
              have HB7 : Hid (Below w6.heap.size w6 w7) := hb7
              clear hb7 x0 x1 x2 x3 x4 x5 x6 xf
              go_wp2_with fail
              go_roundw
              case rel => exact ⟨pre ++ [x], f', x, calNext p.rs x, _, _, _, rfl, rfl, by rw [HD.out.1, HDN.out.1]; simp, HDN.out.2, fun y hy => (by
                rcases List.mem_append.1 hy with h | h
                · exact HLE.out y h
                · rw [List.mem_singleton.1 h]; exact hn), (by omega), (by rw [HSN2.out]; have h := HU6.out.below HB7.out; simp only [List.length_append, List.length_cons, List.length_nil, Nat.zero_add] at h ⊢; exact h), HX6.out.below HB7.out, HZ6.out.below HB7.out, HB6.out.1.trans (HB7.out.mono (by have := HB6.out.1.size; have := HF.out; omega)), bcall HB6.out.2 HB6.out.2.size HB7.out⟩
              case measure =>
                have hbd2 := next_bd p.rs x
                show meas (calNext p.rs x) < meas x
                unfold meas
                split <;> split <;> omega
          · have HLT : Hid (late p now = (G, W, T)) := HEND.out (by omega)
            obtain ⟨x0, x1, x2, x3, x4, x5, x6, xf⟩ := sevenOf HX.out
            go_wp2_with fail
            refine (copyU av p.rs.length cv p.rs p.pol p.win now ga' G.length gc' G wa' W.length wc' W ta' (keep (p.told ++ T)).length tc' (keep (p.told ++ T)) wr (gruls (HRUL.out wr HB.out)) (butO_row HU.out.goes HWF.out.1) (butO_row HU.out.waits HWF.out.2.1) (tO_row HU.out.told HWF.out.2.2) (by have := HSM.out.1; omega) HSM.out.2.1 (by have := HNUM.out; omega) (by have := HNUM.out; omega) (by have := HNUM.out; omega)).mono ?_
            rintro e w9 ⟨⟨a9, c9, vs9, vg, vw, vt, F9, rfl, hF1, hF2, hRul9, hU9⟩, hb9⟩
            obtain ⟨ga9, gc9, rfl⟩ := hU9.goes.form
            obtain ⟨wa9, wc9, rfl⟩ := hU9.waits.form
            obtain ⟨ta9, tc9, rfl⟩ := hU9.told.form
            have HZ9 : Hid (Holds w9 (w.heap.size + 1) 31 #[.slice none 0 0, .int .i64 0, .int .i64 0, .int .i64 0, .slice none 0 0, .slice none 0 0, .slice none 0 0]) := Holds.below HZ.out hb9
            obtain ⟨b0, b1, b2, b3, b4, b5, b6, bf⟩ := sevenOf HZ9.out
            obtain ⟨h7H, h7⟩ := fill7H HZ9.out (.slice a9 p.rs.length c9) (.int .i64 p.pol) (.int .i64 p.win) (.int .i64 now) (.slice ga9 G.length gc9) (.slice wa9 W.length wc9) (.slice ta9 (keep (p.told ++ T)).length tc9)
            have HFIN : Hid (TickPost w (tickP p now).1 (tickP p now).2 (.returned (.tuple #[.agg #[.slice a9 p.rs.length c9, .int .i64 p.pol, .int .i64 p.win, .int .i64 now, .slice ga9 G.length gc9, .slice wa9 W.length wc9, .slice ta9 (keep (p.told ++ T)).length tc9], .slice oa' T.length oc'])) (((((((w9.setCell ⟨w.heap.size + 1, 0, none⟩ (.slice a9 p.rs.length c9)).setCell ⟨w.heap.size + 1, 1, none⟩ (.int .i64 p.pol)).setCell ⟨w.heap.size + 1, 2, none⟩ (.int .i64 p.win)).setCell ⟨w.heap.size + 1, 3, none⟩ (.int .i64 now)).setCell ⟨w.heap.size + 1, 4, none⟩ (.slice ga9 G.length gc9)).setCell ⟨w.heap.size + 1, 5, none⟩ (.slice wa9 W.length wc9)).setCell ⟨w.heap.size + 1, 6, none⟩ (.slice ta9 (keep (p.told ++ T)).length tc9))) := by
              rw [HT.out, HLT.out]
              exact ⟨⟨a9, c9, vs9, _, _, _, _, rfl, ((hRul9 w9 (Below.refl _ _)).sameP h7).base HB0.out.size, (und_join HU.out hb9 hU9 hF1 (by have := HF.out; omega) (by have := HB0.out.size; omega)).same h7⟩, below7 (bcall HB0.out HB0.out.size hb9) (by omega) _ _ _ _ _ _ _⟩
            have HQ : Hid _ := sevenOf h7H
            clear h7H h7 hRul9 hU9 hb9 HZ9 x0 x1 x2 x3 x4 x5 x6 xf HX HZ HB HB0 HU
            go_wp2_with fail
            obtain ⟨q0, q1, q2, q3, q4, q5, q6, _⟩ := HQ.out
            refine bodyPost_ret (v := .tuple #[.agg #[.slice a9 p.rs.length c9, .int .i64 p.pol, .int .i64 p.win, .int .i64 now, .slice ga9 G.length gc9, .slice wa9 W.length wc9, .slice ta9 (keep (p.told ++ T)).length tc9], .slice oa' T.length oc']) ?_ rfl HFIN.out
            simp [results, Tryz.results6, go_sem, q0, q1, q2, q3, q4, q5, q6]
        · have HLT : Hid (late p now = (G, W, T)) := HEND.out (by omega)
          obtain ⟨x0, x1, x2, x3, x4, x5, x6, xf⟩ := sevenOf HX.out
          go_wp2_with fail
          refine (copyU av p.rs.length cv p.rs p.pol p.win now ga' G.length gc' G wa' W.length wc' W ta' (keep (p.told ++ T)).length tc' (keep (p.told ++ T)) wr (gruls (HRUL.out wr HB.out)) (butO_row HU.out.goes HWF.out.1) (butO_row HU.out.waits HWF.out.2.1) (tO_row HU.out.told HWF.out.2.2) (by have := HSM.out.1; omega) HSM.out.2.1 (by have := HNUM.out; omega) (by have := HNUM.out; omega) (by have := HNUM.out; omega)).mono ?_
          rintro e w9 ⟨⟨a9, c9, vs9, vg, vw, vt, F9, rfl, hF1, hF2, hRul9, hU9⟩, hb9⟩
          obtain ⟨ga9, gc9, rfl⟩ := hU9.goes.form
          obtain ⟨wa9, wc9, rfl⟩ := hU9.waits.form
          obtain ⟨ta9, tc9, rfl⟩ := hU9.told.form
          have HZ9 : Hid (Holds w9 (w.heap.size + 1) 31 #[.slice none 0 0, .int .i64 0, .int .i64 0, .int .i64 0, .slice none 0 0, .slice none 0 0, .slice none 0 0]) := Holds.below HZ.out hb9
          obtain ⟨b0, b1, b2, b3, b4, b5, b6, bf⟩ := sevenOf HZ9.out
          obtain ⟨h7H, h7⟩ := fill7H HZ9.out (.slice a9 p.rs.length c9) (.int .i64 p.pol) (.int .i64 p.win) (.int .i64 now) (.slice ga9 G.length gc9) (.slice wa9 W.length wc9) (.slice ta9 (keep (p.told ++ T)).length tc9)
          have HFIN : Hid (TickPost w (tickP p now).1 (tickP p now).2 (.returned (.tuple #[.agg #[.slice a9 p.rs.length c9, .int .i64 p.pol, .int .i64 p.win, .int .i64 now, .slice ga9 G.length gc9, .slice wa9 W.length wc9, .slice ta9 (keep (p.told ++ T)).length tc9], .slice oa' T.length oc'])) (((((((w9.setCell ⟨w.heap.size + 1, 0, none⟩ (.slice a9 p.rs.length c9)).setCell ⟨w.heap.size + 1, 1, none⟩ (.int .i64 p.pol)).setCell ⟨w.heap.size + 1, 2, none⟩ (.int .i64 p.win)).setCell ⟨w.heap.size + 1, 3, none⟩ (.int .i64 now)).setCell ⟨w.heap.size + 1, 4, none⟩ (.slice ga9 G.length gc9)).setCell ⟨w.heap.size + 1, 5, none⟩ (.slice wa9 W.length wc9)).setCell ⟨w.heap.size + 1, 6, none⟩ (.slice ta9 (keep (p.told ++ T)).length tc9))) := by
            rw [HT.out, HLT.out]
            exact ⟨⟨a9, c9, vs9, _, _, _, _, rfl, ((hRul9 w9 (Below.refl _ _)).sameP h7).base HB0.out.size, (und_join HU.out hb9 hU9 hF1 (by have := HF.out; omega) (by have := HB0.out.size; omega)).same h7⟩, below7 (bcall HB0.out HB0.out.size hb9) (by omega) _ _ _ _ _ _ _⟩
          have HQ : Hid _ := sevenOf h7H
          clear h7H h7 hRul9 hU9 hb9 HZ9 x0 x1 x2 x3 x4 x5 x6 xf HX HZ HB HB0 HU
          go_wp2_with fail
          obtain ⟨q0, q1, q2, q3, q4, q5, q6, _⟩ := HQ.out
          refine bodyPost_ret (v := .tuple #[.agg #[.slice a9 p.rs.length c9, .int .i64 p.pol, .int .i64 p.win, .int .i64 now, .slice ga9 G.length gc9, .slice wa9 W.length wc9, .slice ta9 (keep (p.told ++ T)).length tc9], .slice oa' T.length oc']) ?_ rfl HFIN.out
          simp [results, Tryz.results6, go_sem, q0, q1, q2, q3, q4, q5, q6]
  · have hok' : planOk p = false := by simpa using hok
    have HT : Hid (tickP p now = (noPlan, [])) := by show tickP p now = _; unfold tickP; rw [if_neg hok]
    rw [hok']
    clear hok hok'
    obtain ⟨b0, b1, b2, b3, b4, b5, b6, bf⟩ := sevenOf HX1.out.2
    go_wp2_with fail
    refine bodyPost_ret (v := .tuple #[.agg #[.slice none 0 0, .int .i64 0, .int .i64 0, .int .i64 0, .slice none 0 0, .slice none 0 0, .slice none 0 0], .slice (some ⟨w.heap.size + 1 + 1, 0, none⟩) 0 0]) ?_ rfl ?_
    · simp [results, Tryz.results6, go_sem, b0, b1, b2, b3, b4, b5, b6]
    · rw [HT.out]
      exact ⟨⟨none, 0, [], _, _, _, _, rfl, GathS.nil _ _, ⟨.inl ⟨rfl, rfl, none, rfl, fun x h => by cases h⟩, .inl ⟨rfl, rfl, none, rfl, fun x h => by cases h⟩, .inl ⟨rfl, none, rfl⟩, .inl ⟨rfl, _, rfl⟩, fun b e => by simp [rowB] at e, fun b e => by simp [rowB] at e⟩⟩, below7 HB1.out.1 (by omega) _ _ _ _ _ _ _⟩
end Pl
end Go.Proofs.YtghocdiddolinaaGreatDoor
