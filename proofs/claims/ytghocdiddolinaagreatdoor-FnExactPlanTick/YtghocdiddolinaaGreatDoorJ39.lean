/- The program's planner looks, up to a tick. -/
import Derived.Test.YtghocdiddolinaaGreatDoorJ38
import Derived.Test.YtghocdiddolinaaGreatDoorJ26
import Derived.RangeFuncFrom
import Derived.Shelf.Abstract
import Derived.Test.YtghocdiddolinaaGreatDoorJ33
import Derived.Test.YtghocdiddolinaaGreatDoorJ34
namespace Go.Proofs.YtghocdiddolinaaGreatDoor
set_option linter.unusedVariables false
set_option linter.unusedSimpArgs false
open Go.RowKit Go
attribute [local go_sem] Oper.semAt_some

theorem Sees.loop {w0 W : World} (h : Sees w0 W) {l : Nat} {r r' : Loop} (hr : W.heap[l]? = some (.loop r)) : Sees w0 (W.putObj l (.loop r')) := by
  refine ⟨Nat.le_trans h.size (grownBy_putObj' W l (.loop r')).size, fun a n c zs hz => ?_⟩
  obtain ⟨h1, h2, h3, h4, h5⟩ := h.rows a n c zs hz
  refine ⟨h1, h2, h3, fun hn => ?_, h5⟩
  obtain ⟨b, off, rfl, hb, hc⟩ := h4 hn
  refine ⟨b, off, rfl, Nat.lt_of_lt_of_le hb (grownBy_putObj' W l (.loop r')).size, fun j hj => ?_⟩
  have hne : b ≠ l := fun e => by
    subst e
    have := hc j hj
    simp [World.cell?, hr] at this
  exact (World.cell?_of_block (World.putObj_heap_other hne)).trans (hc j hj)
theorem Teller.loop {w0 W : World} {M p1 p2 : Nat} {v : Value} {t : Int} {ps : List Rul} (h : Teller w0 W M p1 p2 v t ps) {l : Nat} {r r' : Loop} (hl : w0.heap.size ≤ l) (hr : W.heap[l]? = some (.loop r)) : Teller w0 (W.putObj l (.loop r')) M p1 p2 v t ps := by
  refine h.keep (h.1.loop hr) (fun k c ty fz _ hk => ?_)
  rw [World.putObj_heap_other ?_]; · exact hk
  rintro rfl
  rw [hr] at hk; cases hk
theorem wf_lo {n : Int} (h : (Lit.int .i64 n).wf = true) : -9223372036854775808 ≤ n := by
  have hmin : IntKind.i64.min = -9223372036854775808 := rfl
  simp only [Lit.wf, Bool.and_eq_true, decide_eq_true_eq] at h
  omega
theorem keepsFrom_set {B : Nat} {W : World} {k : Nat} {t : TypeId} {v : Value} (h : Boxed W k t v) (u : Value) : KeepsFrom B W (W.setCell ⟨k, 0, none⟩ u) := by
  refine ⟨by simp, fun j o _ hj ho => ?_⟩
  rw [Below.heap_setCell W ⟨k, 0, none⟩ u j ?_]; · exact hj
  rintro rfl
  rw [show W.heap[j]? = _ from h] at hj; cases hj; cases ho

end Go.Proofs.YtghocdiddolinaaGreatDoor

namespace Go.Proofs.YtghocdiddolinaaGreatDoor
set_option linter.unusedVariables false
set_option linter.unusedSimpArgs false
open Go.RowKit Go Go.Sort
attribute [local go_sem] Oper.semAt_some
namespace Pl
open Dr (ButO rowB rowB_own rowB_pos)

theorem boxes3 (w : World) (tA tB tC : TypeId) (A B C : Array Value) : Holds (((w.alloc (.cells A tA)).alloc (.cells B tB)).alloc (.cells C tC)) w.heap.size tA A ∧ Holds (((w.alloc (.cells A tA)).alloc (.cells B tB)).alloc (.cells C tC)) (w.heap.size + 1) tB B ∧ Holds (((w.alloc (.cells A tA)).alloc (.cells B tB)).alloc (.cells C tC)) (w.heap.size + 1 + 1) tC C ∧ Below w.heap.size w (((w.alloc (.cells A tA)).alloc (.cells B tB)).alloc (.cells C tC)) ∧ (((w.alloc (.cells A tA)).alloc (.cells B tB)).alloc (.cells C tC)).heap.size = w.heap.size + 1 + 1 + 1 := by
  have h := boxes2_new w tA tB A B
  have hn : Holds (((w.alloc (.cells A tA)).alloc (.cells B tB)).alloc (.cells C tC)) ((w.alloc (.cells A tA)).alloc (.cells B tB)).heap.size tC C := heap_alloc_new _ _
  exact ⟨h.1.below (al_below _ _), h.2.below (al_below _ _), by simpa using hn, (((Below.refl _ _).alloc (Nat.le_refl _) _).alloc (by simp) _).alloc (by simp; omega) _, by simp⟩
theorem Pnr.setSame {W : World} {F n m : Nat} {S : Nat → Prop} {vr : Value} {pol win last : Int} {vp vg vw vt vo : Value} {gs ws : List Int} {ts os : List Tld} (h : Pnr W F S n m vr pol win last vp vg vw vt vo gs ws ts os) (i : Nat) (v : Value) (e : (#[vr, .int .i64 pol, .int .i64 win, .int .i64 last, vg, vw, vt, vp, tellF m] : Array Value).setIfInBounds i v = #[vr, .int .i64 pol, .int .i64 win, .int .i64 last, vg, vw, vt, vp, tellF m]) :
    Pnr (W.setCell ⟨n, i, none⟩ v) F S n m vr pol win last vp vg vw vt vo gs ws ts os ∧ Stays F S W (W.setCell ⟨n, i, none⟩ v) :=
  ⟨⟨e ▸ h.box.set i v, holds_else h.out h.ne i _, h.und.same (h.boxP i _), h.own.same (h.boxP i _), h.low, h.away, by simpa using h.big, h.freeG, h.freeW, h.freeO⟩, (Stays.refl _ _ _).set h.low.1 h.away.1 _⟩

set_option maxRecDepth 100000 in
set_option maxHeartbeats 4000000 in
theorem lookNo {W : World} {F n m : Nat} {S : Nat → Prop} {vr : Value} {pol win last : Int} {vp vg vw vt vo : Value} {gs ws : List Int} {ts os : List Tld} (h : Pnr W F S n m vr pol win last vp vg vw vt vo gs ws ts os) (hr : ∃ a l c, vr = .slice a l c) (now : Int) (h1 : now ≤ last ∨ ¬ (0 ≤ now ∧ now ≤ 100000)) :
    Calls Tryz.prog 30 #[.pointer (some ⟨n, 0, none⟩), .int .i64 now] W (PnrTo W F S n m vr pol win last vp vt gs ws ts os) := by
  obtain ⟨ra, rl, rc, rfl⟩ := hr
  obtain ⟨ga, gc, rfl⟩ := h.und.goes.form
  obtain ⟨wa, wc, rfl⟩ := h.und.waits.form
  obtain ⟨ta, tc, rfl⟩ := h.und.told.form
  obtain ⟨q0, q1, q2, q3, q4, q5, q6, q7, q8, qf⟩ := nineOf h.box
  have hnl := h.box.lt
  have HP : Hid _ := h
  clear h q7 q8
  have hmf : ∀ (fn : Fn) (first cap : Array Value) (w : World), (Instr.makeFunc fn first cap).run Tryz.prog w = .ok (.func fn first cap) w := fun _ _ _ _ => rfl
  refine (callsIn_wide (n := 6)).1 ?_
  refine callsIn_of_wp_marks Tryz.func30 rfl trivial ?_ rfl
  simp only [Tryz.ntmps30, List.size_toArray, List.length_cons, List.length_nil, Nat.reduceAdd, Nat.reduceSub, Array.replicate_succ, Array.replicate_zero, List.push_toArray, List.append_toArray, List.nil_append, List.cons_append]
  have HBX : Hid _ := boxes3 W 54 3 31 #[.pointer (some ⟨n, 0, none⟩)] #[.int .i64 now] #[.slice ra rl rc, .int .i64 pol, .int .i64 win, .int .i64 last, .slice ga gs.length gc, .slice wa ws.length wc, .slice ta ts.length tc]
  gi_wp2_with fail
  refine ⟨trivial, callsIn_wide.2 ((passNo (HP.out.below HBX.out.2.2.2.1).box now h1).mono ?_)⟩
  rintro e w1 ⟨rfl, hb1⟩
  have HP1 := HP.out.below (HBX.out.2.2.2.1.trans (hb1.mono HBX.out.2.2.2.1.size))
  have hs1 := Stays.below (F := F) (S := S) (HBX.out.2.2.2.1.trans (hb1.mono HBX.out.2.2.2.1.size)) HP.out.flt HP.out.big
  refine ⟨by simp, .inr ⟨fun _ => by omega, _, _, 55, #[.pointer (some ⟨W.heap.size + 1 + 1, 0, none⟩), .pointer (some ⟨W.heap.size, 0, none⟩)], rfl, by simp [go_sem], fun _ _ => trivial, ?_⟩⟩
  refine (catchP HP1.box (HBX.out.2.2.1.below hb1) (HBX.out.1.below hb1) _).mono ?_
  rintro e u' w2 ⟨rfl, rfl, rfl⟩
  obtain ⟨k0, j0⟩ := HP1.setSame 0 (.slice ra rl rc) rfl
  obtain ⟨k1, j1⟩ := k0.setSame 1 (.int .i64 pol) rfl
  obtain ⟨k2, j2⟩ := k1.setSame 2 (.int .i64 win) rfl
  obtain ⟨k3, j3⟩ := k2.setSame 3 (.int .i64 last) rfl
  obtain ⟨k4, j4⟩ := k3.setSame 4 (.slice ga gs.length gc) rfl
  obtain ⟨k5, j5⟩ := k4.setSame 5 (.slice wa ws.length wc) rfl
  obtain ⟨k6, j6⟩ := k5.setSame 6 (.slice ta ts.length tc) rfl
  have hs := (((((((hs1.trans j0).trans j1).trans j2).trans j3).trans j4).trans j5).trans j6).trans (Stays.below (al_below _ (.cells #[] 87)) k6.flt k6.big)
  refine ⟨.tuple #[], ?_, rfl, ⟨_, _, _, k6.below (al_below _ _)⟩, hs⟩
  simp [results, Tryz.results30, go_sem]
end Pl
end Go.Proofs.YtghocdiddolinaaGreatDoor
