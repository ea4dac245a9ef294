/- Comparing rules of calendars: alike when they read alike. -/
import Derived.Test.YtghocdiddolinaaGreatDoorJ44
import Derived.Test.YtghocdiddolinaaGreatDoorJ27
import Derived.Test.YtghocdiddolinaaGreatDoorJ17
import Derived.Test.YtghocdiddolinaaGreatDoorJ7
import Derived.Test.YtghocdiddolinaaGreatDoorJ9
import Derived.Test.YtghocdiddolinaaGreatDoorJ1
import Derived.Test.YtghocdiddolinaaGreatDoorJ2
namespace Go.Proofs.YtghocdiddolinaaGreatDoor
set_option linter.unusedVariables false
set_option linter.unusedSimpArgs false
open Go.RowKit Go Go.Sort
namespace Pl

theorem planOk_fits {p : Pla} (h : PlanOk p) : FitsIn p.pol p.goes p.waits := ⟨h.goesN, h.waitsN⟩

theorem doesTick (p : Pla) (now : Int) (w : World) (nb : Nat) (hbox : Holds w nb 3 #[.int .i64 now]) (hok : PlanOk p) (hg : Wfs p.goes) (hw : Wfs p.waits) (hE : ErrT w) :
    DoesP (.func (.func 29) #[] #[.pointer (some ⟨nb, 0, none⟩)]) w p (if now ≤ p.last ∨ 100000 < now then p.last else now) (if now ≤ p.last ∨ 100000 < now then p.goes else (late p now).1) (if now ≤ p.last ∨ 100000 < now then p.waits else (late p now).2.1) (if now ≤ p.last ∨ 100000 < now then [] else (late p now).2.2) := by
  refine ⟨_, _, rfl, enters_of Tryz.func29 (by kernel_rfl) rfl, ?_⟩
  intro W w0 F n m S ra rl rc vg vw vt vo hP hr hb0 hcov hbW hF
  have hlk : Calls Tryz.prog 30 #[.pointer (some ⟨n, 0, none⟩), .int .i64 now] W (LookTo W F S n m (.slice ra rl rc) p.pol p.win (if now ≤ p.last ∨ 100000 < now then p.last else now) (.iface (polT p.pol) (polV p.pol)) vt (if now ≤ p.last ∨ 100000 < now then p.goes else (late p now).1) (if now ≤ p.last ∨ 100000 < now then p.waits else (late p now).2.1) p.told (if now ≤ p.last ∨ 100000 < now then [] else (late p now).2.2)) := by
    by_cases h : now ≤ p.last ∨ 100000 < now
    · rw [if_pos h, if_pos h, if_pos h, if_pos h]
      exact (lookNo hP ⟨_, _, _, rfl⟩ now (by omega)).mono fun e W' h => PnrTo.look h
    · rw [if_neg h, if_neg h, if_neg h, if_neg h]
      have h1 := hok.last
      have := lookOk hP hr hb0 hcov (fun W' hb => hE.below (hbW.trans (hb.mono hF))) hok.rules hok.pol (planOk_fits hok) hg hw (by simp) hok.last now (by omega) (by omega)
      simpa [late] using this
  generalize (if now ≤ p.last ∨ 100000 < now then p.last else now) = l' at hlk ⊢
  generalize (if now ≤ p.last ∨ 100000 < now then p.goes else (late p now).1) = g' at hlk ⊢
  generalize (if now ≤ p.last ∨ 100000 < now then p.waits else (late p now).2.1) = w2' at hlk ⊢
  generalize (if now ≤ p.last ∨ 100000 < now then [] else (late p now).2.2) = o' at hlk ⊢
  have HL : Hid _ := hlk
  have c0 : W.cell? ⟨nb, 0, none⟩ = some (.int .i64 now) := by rw [(hbox.below hbW).cell 0]; rfl
  clear hlk
  show Calls Tryz.prog 29 #[.pointer (some ⟨n, 0, none⟩), .pointer (some ⟨nb, 0, none⟩)] W _
  go_enter Tryz.func29, Tryz.ntmps29
  go_wp2_with fail
  refine Calls.mono HL.out ?_
  rintro e w' ⟨rfl, h2⟩
  go_wp2_with fail
  go_end0
  exact ⟨rfl, h2⟩

set_option maxHeartbeats 2000000 in
theorem implPlanTick (ra : Option Addr) (rl rc : Nat) (ga : Option Addr) (gl gc : Nat) (wa : Option Addr) (wl wk : Nat) (ta : Option Addr) (tl tc : Nat) (p : Pla) (now : Int) (w : World) (hp : IsPla w ra rl rc ga gl gc wa wl wk ta tl tc p) (hs : plaSmall p) (hE : ErrT w) :
    Calls Tryz.prog 8 #[.agg #[.slice ra rl rc, .int .i64 p.pol, .int .i64 p.win, .int .i64 p.last, .slice ga gl gc, .slice wa wl wk, .slice ta tl tc], .int .i64 now] w (DonePost w (tickP p now).1 (tickP p now).2) := by
  have hmf : ∀ (fn : Fn) (first cap : Array Value) (w : World), (Instr.makeFunc fn first cap).run Tryz.prog w = .ok (.func fn first cap) w := fun _ _ _ _ => rfl
  have hgw : Wfs p.goes := hp.2.1.wf
  have hww : Wfs p.waits := hp.2.2.1.wf
  have hgood := IsTlds.goods hp.2.2.2
  have hdl : planOk p = true → (late p now).2.2.length ≤ 500000 ∧ Wfs (late p now).1 ∧ Wfs (late p now).2.1 ∧ Goods (late p now).2.2 := fun h => by
    have hwt : Wfs (ticks p.rs p.last now) := fun n hn => wf_tick (by
      have h1 := List.takeWhile_sublist (p := fun x => decide (x ≤ now)) (l := dueL p.rs 100002 p.last)
      have := dueL_bd 100002 p.last n (h1.subset hn)
      omega)
    have h1 := looksAll_len p.pol p.win now (ticks p.rs p.last now) p.goes p.waits
    have h2 : (ticks p.rs p.last now).length ≤ 100002 := Nat.le_trans (List.takeWhile_sublist _).length_le (dueL_lenP p.rs 100002 p.last)
    exact ⟨by unfold late; omega, looksAll_wf (pol := p.pol) (win := p.win) (now := now) _ hgw hww hwt⟩
  have HB : Hid (Holds ((w.alloc (.cells #[.slice ra rl rc, .int .i64 p.pol, .int .i64 p.win, .int .i64 p.last, .slice ga gl gc, .slice wa wl wk, .slice ta tl tc] 31)).alloc (.cells #[.int .i64 now] 3)) (w.heap.size + 1) 3 #[.int .i64 now]) := (boxes2_new w 31 3 #[.slice ra rl rc, .int .i64 p.pol, .int .i64 p.win, .int .i64 p.last, .slice ga gl gc, .slice wa wl wk, .slice ta tl tc] #[.int .i64 now]).2
  have HX : Hid (Below w.heap.size w (((w.alloc (.cells #[.slice ra rl rc, .int .i64 p.pol, .int .i64 p.win, .int .i64 p.last, .slice ga gl gc, .slice wa wl wk, .slice ta tl tc] 31)).alloc (.cells #[.int .i64 now] 3)).alloc (.cells #[.slice none 0 0, .int .i64 0, .int .i64 0, .int .i64 0, .slice none 0 0, .slice none 0 0, .slice none 0 0] 31))) := (((Below.refl w.heap.size w).alloc (Nat.le_refl _) _).alloc (by simp) _).alloc (by simp; omega) _
  have HBB : Hid _ := HB.out.below (al_below _ (.cells #[.slice none 0 0, .int .i64 0, .int .i64 0, .int .i64 0, .slice none 0 0, .slice none 0 0, .slice none 0 0] 31))
  have HPL : Hid (Calls Tryz.prog 28 #[.agg #[.slice ra rl rc, .int .i64 p.pol, .int .i64 p.win, .int .i64 p.last, .slice ga gl gc, .slice wa wl wk, .slice ta tl tc], .func (.func 29) #[] #[.pointer (some ⟨w.heap.size + 1, 0, none⟩)]] (((w.alloc (.cells #[.slice ra rl rc, .int .i64 p.pol, .int .i64 p.win, .int .i64 p.last, .slice ga gl gc, .slice wa wl wk, .slice ta tl tc] 31)).alloc (.cells #[.int .i64 now] 3)).alloc (.cells #[.slice none 0 0, .int .i64 0, .int .i64 0, .int .i64 0, .slice none 0 0, .slice none 0 0, .slice none 0 0] 31)) (DonePost (((w.alloc (.cells #[.slice ra rl rc, .int .i64 p.pol, .int .i64 p.win, .int .i64 p.last, .slice ga gl gc, .slice wa wl wk, .slice ta tl tc] 31)).alloc (.cells #[.int .i64 now] 3)).alloc (.cells #[.slice none 0 0, .int .i64 0, .int .i64 0, .int .i64 0, .slice none 0 0, .slice none 0 0, .slice none 0 0] 31)) (tickP p now).1 (tickP p now).2)) := by
    by_cases hok : planOk p = true
    · obtain ⟨d1, d2, d3, d4⟩ := hdl hok
      have hPO := planOk_ok hok
      have h := planned ra rl rc ga gl gc wa wl wk ta tl tc p _ _ _ _ _ _ (hp.below HX.out) hs (hE.below HX.out) (fun _ => doesTick p now _ _ HBB.out hPO hgw hww (hE.below HX.out)) (by split; exact hgw; exact d2) (by split; exact hww; exact d3) (by split; exact (fun x hx => nomatch hx); exact d4) (by split; simp; exact d1)
      rw [if_pos hok, if_pos hok] at h
      have e : tickP p now = (⟨p.rs, p.pol, p.win, if now ≤ p.last ∨ 100000 < now then p.last else now, if now ≤ p.last ∨ 100000 < now then p.goes else (late p now).1, if now ≤ p.last ∨ 100000 < now then p.waits else (late p now).2.1, keep (p.told ++ if now ≤ p.last ∨ 100000 < now then [] else (late p now).2.2)⟩, if now ≤ p.last ∨ 100000 < now then [] else (late p now).2.2) := by
        unfold tickP
        rw [if_pos hok]
        split
        · rw [List.append_nil, keep_small hPO.told60]
        · rfl
      rw [e]
      exact h
    · have h := planned ra rl rc ga gl gc wa wl wk ta tl tc p (.func (.func 29) #[] #[.pointer (some ⟨w.heap.size + 1, 0, none⟩)]) 0 [] [] [] _ (hp.below HX.out) hs (hE.below HX.out) (fun h => absurd h hok) (fun x hx => nomatch hx) (fun x hx => nomatch hx) (fun x hx => nomatch hx) (by simp)
      rw [if_neg hok, if_neg hok] at h
      have e : tickP p now = (noPlan, []) := by unfold tickP; rw [if_neg hok]
      rw [e]
      exact h
  clear hp hs hE hgw hww hgood hdl HB HBB
  generalize (tickP p now).1 = P' at HPL ⊢
  generalize (tickP p now).2 = O' at HPL ⊢
  have HN : Hid (Holds (((w.alloc (.cells #[.slice ra rl rc, .int .i64 p.pol, .int .i64 p.win, .int .i64 p.last, .slice ga gl gc, .slice wa wl wk, .slice ta tl tc] 31)).alloc (.cells #[.int .i64 now] 3)).alloc (.cells #[.slice none 0 0, .int .i64 0, .int .i64 0, .int .i64 0, .slice none 0 0, .slice none 0 0, .slice none 0 0] 31)) (w.heap.size + 1 + 1) 31 #[.slice none 0 0, .int .i64 0, .int .i64 0, .int .i64 0, .slice none 0 0, .slice none 0 0, .slice none 0 0]) := by
    have h := heap_alloc_new ((w.alloc (.cells #[.slice ra rl rc, .int .i64 p.pol, .int .i64 p.win, .int .i64 p.last, .slice ga gl gc, .slice wa wl wk, .slice ta tl tc] 31)).alloc (.cells #[.int .i64 now] 3)) (.cells #[.slice none 0 0, .int .i64 0, .int .i64 0, .int .i64 0, .slice none 0 0, .slice none 0 0, .slice none 0 0] 31)
    rw [World.size_alloc, World.size_alloc] at h
    exact h
  go_enter Tryz.func8, Tryz.ntmps8
  go_wp2_with fail
  refine Calls.mono HPL.out ?_
  rintro e w1 ⟨⟨v0, vs, vg, vw, vt, vo, rfl, hG, hO, hgd, hne⟩, hb⟩
  simp only [World.size_alloc] at hG hO
  obtain ⟨a0, k0, rfl⟩ := own_form hG.1.2.1
  obtain ⟨a4, k4, rfl⟩ := own_form hG.2.1.1
  obtain ⟨a5, k5, rfl⟩ := own_form hG.2.2.1.1
  obtain ⟨a6, k6, rfl⟩ := own_form hG.2.2.2.1.1
  obtain ⟨oa, ok, rfl⟩ := own_form hO
  have HB1 : Hid (Below w.heap.size w w1) := bcall HX.out HX.out.size hb
  have HN1 : Hid _ := HN.out.below hb
  have HG1 : Hid _ := gathPV_base hG (show w.heap.size ≤ _ by omega)
  have HO1 : Hid _ := Cal.own_base hO (show w.heap.size ≤ _ by omega)
  have HD1 : Hid _ := And.intro hgd hne
  clear hb HN hG hO hgd hne HX HPL
  obtain ⟨q0, q1, q2, q3, q4, q5, q6, qf⟩ := sevenOf HN1.out
  go_wp2_with fail
  obtain ⟨h7H, h7⟩ := fill7H HN1.out (.slice a0 P'.rs.length k0) (.int .i64 P'.pol) (.int .i64 P'.win) (.int .i64 P'.last) (.slice a4 P'.goes.length k4) (.slice a5 P'.waits.length k5) (.slice a6 P'.told.length k6)
  have hB7 := below7U HB1.out (N := w.heap.size + 1 + 1) (by omega) (.slice a0 P'.rs.length k0) (.int .i64 P'.pol) (.int .i64 P'.win) (.int .i64 P'.last) (.slice a4 P'.goes.length k4) (.slice a5 P'.waits.length k5) (.slice a6 P'.told.length k6)
  obtain ⟨b0, b1, b2, b3, b4, b5, b6, _⟩ := sevenOf h7H
  refine bodyPost_ret (v := .tuple #[.agg #[.slice a0 P'.rs.length k0, .int .i64 P'.pol, .int .i64 P'.win, .int .i64 P'.last, (.slice a4 P'.goes.length k4), (.slice a5 P'.waits.length k5), (.slice a6 P'.told.length k6)], (.slice oa O'.length ok)]) ?_ rfl ?_
  · simp [results, Tryz.results8, go_sem, b0, b1, b2, b3, b4, b5, b6]
  · exact ⟨⟨_, vs, _, _, _, _, rfl, GathPV.same HG1.out h7, own_same HO1.out h7 (.inr (.inr rfl)), HD1.out⟩, hB7⟩
end Pl
end Go.Proofs.YtghocdiddolinaaGreatDoor

namespace Go.Proofs.YtghocdiddolinaaGreatDoor
set_option linter.unusedVariables false
set_option linter.unusedSimpArgs false
open Go.RowKit Go
namespace Pl

theorem mEnd_bd' {B : Nat} : ∀ (es : List Rul) (k : Nat), (∀ i (h : i < es.length), es[i].but.length ≤ B) → Cal.mEnd es k ≤ k + (4 + B) * es.length := by
  intro es
  induction es with
  | nil => intro k _; simp [Cal.mEnd]
  | cons e t ih =>
    intro k h
    have h1 := ih (k + 4 + e.but.length) (fun i hi => h (i + 1) (by simpa using hi))
    have h2 := h 0 (by simp)
    simp only [List.getElem_cons_zero] at h2
    rw [Cal.mEnd, List.length_cons, Nat.mul_add]
    omega
theorem GathPV.stayUp {w w' : World} {base : Nat} {v0 : Value} {vs : List Value} {v4 v5 v6 : Value} {p : Pla} (h : GathPV w base v0 vs v4 v5 v6 p) (hk : ∀ b, base ≤ b → b < w.heap.size → w'.heap[b]? = w.heap[b]?) : GathPV w' base v0 vs v4 v5 v6 p := by
  obtain ⟨h1, h2, h3, h4, h5⟩ := h
  have st : ∀ {n : Nat} {t : TypeId} {size : Nat} {v : Value} {xs : List Value}, w.ownsRow base t size v n xs → w'.ownsRow base t size v n xs := fun ho => own_stay ho fun b e => hk b (World.ownsRow.lt ho b e).1 (World.ownsRow.lt ho b e).2
  exact ⟨⟨h1.1, st h1.2.1, fun i hi => ⟨st (h1.2.2.1 i hi).1, (h1.2.2.1 i hi).2⟩, h1.2.2.2⟩, ⟨st h2.1, h2.2⟩, ⟨st h3.1, h3.2⟩, ⟨st h4.1, h4.2⟩, h5⟩
/-- What a gathered plan reads as, its values as they stand. -/
theorem GathPV.reads {w : World} {base : Nat} {a0 : Option Addr} {n0 k0 : Nat} {vs : List Value} {a4 : Option Addr} {n4 k4 : Nat} {a5 : Option Addr} {n5 k5 : Nat} {a6 : Option Addr} {n6 k6 : Nat} {p : Pla} (h : GathPV w base (.slice a0 n0 k0) vs (.slice a4 n4 k4) (.slice a5 n5 k5) (.slice a6 n6 k6) p) : IsPla w a0 n0 k0 a4 n4 k4 a5 n5 k5 a6 n6 k6 p := by
  obtain ⟨ra, rc, ga, gc, wa, wc, ta, tc, e0, e1, e2, e3, hp⟩ := h.gath.pla
  simp only [Value.slice.injEq] at e0 e1 e2 e3
  obtain ⟨rfl, rfl, rfl⟩ := e0
  obtain ⟨rfl, rfl, rfl⟩ := e1
  obtain ⟨rfl, rfl, rfl⟩ := e2
  obtain ⟨rfl, rfl, rfl⟩ := e3
  exact hp
/-- A gathered plan and its box. -/
def Gv (W : World) (N base : Nat) (v0 : Value) (vs : List Value) (v4 v5 v6 : Value) (p : Pla) : Prop := Holds W N 31 #[v0, .int .i64 p.pol, .int .i64 p.win, .int .i64 p.last, v4, v5, v6] ∧ GathPV W base v0 vs v4 v5 v6 p
theorem Gv.below {W W' : World} {N base : Nat} {v0 : Value} {vs : List Value} {v4 v5 v6 : Value} {p : Pla} (h : Gv W N base v0 vs v4 v5 v6 p) (hb : Below W.heap.size W W') : Gv W' N base v0 vs v4 v5 v6 p := ⟨Holds.below h.1 hb, GathPV.same h.2 (SameP.below hb)⟩
end Pl
end Go.Proofs.YtghocdiddolinaaGreatDoor

namespace Go.Proofs.YtghocdiddolinaaGreatDoor
set_option linter.unusedVariables false
set_option linter.unusedSimpArgs false
open Go.RowKit Go
namespace Pl

/-- A plan as a value. -/
def plaV (p : Pla) (ra : Option Addr) (rl rc : Nat) (ga : Option Addr) (gl gc : Nat) (wa : Option Addr) (wl wk : Nat) (ta : Option Addr) (tl tc : Nat) : Value := .agg #[.slice ra rl rc, .int .i64 p.pol, .int .i64 p.win, .int .i64 p.last, .slice ga gl gc, .slice wa wl wk, .slice ta tl tc]

theorem toPlanP (ra : Option Addr) (rl rc : Nat) (ga : Option Addr) (gl gc : Nat) (wa : Option Addr) (wl wc : Nat) (ta : Option Addr) (tl tc : Nat) (p : Pla) (w : World) (hp : IsPla w ra rl rc ga gl gc wa wl wc ta tl tc p) (hs : plaSmall p) :
    Calls Tryz.prog 7 #[.agg #[.slice ra rl rc, .int .i64 p.pol, .int .i64 p.win, .int .i64 p.last, .slice ga gl gc, .slice wa wl wc, .slice ta tl tc]] w fun e w' => (∃ b0 b1 b2 b3, e = .returned (.agg #[.slice (some ⟨b0, 0, none⟩) rl rl, .int .i64 p.pol, .int .i64 p.win, .int .i64 p.last, .slice (some ⟨b1, 0, none⟩) gl gl, .slice (some ⟨b2, 0, none⟩) wl wl, .slice (some ⟨b3, 0, none⟩) tl tl]) ∧ GathP w' w.heap.size (.slice (some ⟨b0, 0, none⟩) rl rl) (.slice (some ⟨b1, 0, none⟩) gl gl) (.slice (some ⟨b2, 0, none⟩) wl wl) (.slice (some ⟨b3, 0, none⟩) tl tl) p ∧ IsPla w' (some ⟨b0, 0, none⟩) rl rl (some ⟨b1, 0, none⟩) gl gl (some ⟨b2, 0, none⟩) wl wl (some ⟨b3, 0, none⟩) tl tl p) ∧ Below w.heap.size w w' := by
  refine (toPlanG ra rl rc ga gl gc wa wl wc ta tl tc p w hp hs).mono ?_
  rintro e w' ⟨⟨b0, b1, b2, b3, rfl, hG⟩, hb⟩
  refine ⟨⟨b0, b1, b2, b3, rfl, hG, ?_⟩, hb⟩
  have hr := (IsRecs.len hp.1).1
  have hg := (hp.2.1.len).1
  have hw := (hp.2.2.1.len).1
  have ht := (IsRecs.len hp.2.2.2).1
  obtain ⟨ra', rc', ga', gc', wa', wc', ta', tc', e0, e1, e2, e3, h⟩ := hG.pla
  simp only [Value.slice.injEq] at e0 e1 e2 e3
  obtain ⟨rfl, _, rfl⟩ := e0
  obtain ⟨rfl, _, rfl⟩ := e1
  obtain ⟨rfl, _, rfl⟩ := e2
  obtain ⟨rfl, _, rfl⟩ := e3
  rw [hr, hg, hw, ht] at h
  exact h
end Pl
end Go.Proofs.YtghocdiddolinaaGreatDoor

namespace Go.Proofs.YtghocdiddolinaaGreatDoor
set_option linter.unusedVariables false
set_option linter.unusedSimpArgs false
open Go.RowKit Go

set_option maxHeartbeats 400000 in
theorem eqCalRule (ev at_ fr to_ : Int) (a b : Option Addr) (len cap cap2 : Nat) (zs : List Int) (w : World) (hr : IsRow .i64 w a len cap zs) (hr2 : IsRow .i64 w b len cap2 zs) :
    Calls Tryz.prog 59 #[.agg #[.int .i64 ev, .int .i64 at_, .int .i64 fr, .int .i64 to_, .slice a len cap], .agg #[.int .i64 ev, .int .i64 at_, .int .i64 fr, .int .i64 to_, .slice b len cap2]] w fun e w' => e = .returned (.bool true) ∧ Below w.heap.size w w' := by
  have HE : Hid (∀ w, IsRow .i64 w a len cap zs → IsRow .i64 w b len cap2 zs → Calls Tryz.prog 32 #[.slice a len cap, .slice b len cap2] w fun e w' => e = .returned (.bool true) ∧ Below w.heap.size w w') := fun w h1 h2 => eqIntS a b len cap cap2 zs w h1 h2
  have HR : Hid (IsRow .i64 w a len cap zs) := hr
  have HR2 : Hid (IsRow .i64 w b len cap2 zs) := hr2
  clear hr hr2
  go_enter Tryz.func59, Tryz.ntmps59
  go_wp2_with fail
  refine (HE.out _ (by exact (IsRow.alloc HR.out _).alloc _) (by exact (IsRow.alloc HR2.out _).alloc _)).mono ?_
  rintro e w1 ⟨rfl, hb⟩
  go_wp2_with fail
  go_ret
  exact ⟨rfl, bcall (((Below.refl _ _).alloc (Nat.le_refl _) _).alloc (by simp) _) (by simp; omega) hb⟩

set_option maxHeartbeats 400000 in
theorem eqCalRuleS (a b : Option Addr) (len cap cap2 : Nat) (rs : List Rul) (w : World) (hr : IsRuls w a len cap rs) (hr2 : IsRuls w b len cap2 rs) :
    Calls Tryz.prog 31 #[.slice a len cap, .slice b len cap2] w fun e w' => e = .returned (.bool true) ∧ Below w.heap.size w w' := by
  obtain ⟨hz, hm⟩ := IsRecs.len hr
  unfold maxLen at hm
  have HR : Hid (IsRuls w a len cap rs) := hr
  have HR2 : Hid (IsRuls w b len cap2 rs) := hr2
  clear hr hr2
  go_enter Tryz.func31, Tryz.ntmps31
  go_wp2
  go_loopw [5] (fun i wr => ∃ q : Nat, i = .int .i64 q ∧ q ≤ len ∧ Below w.heap.size w wr) (fun i _ => len - (intOf i).toNat)
  case atStart => exact ⟨0, rfl, Nat.zero_le _, Below.refl _ _⟩
  case round =>
    obtain ⟨q, rfl, hq, hb⟩ := hrel
    by_cases hlt : q < len
    · obtain ⟨b1, off1, rfl, h1, hbl1, a1, l1, k1, c0, c1, c2, c3, c4, hrow1, _⟩ := IsRuls.at (IsRuls.below HR.out hb) (i := q) (by omega)
      obtain ⟨b2, off2, rfl, h2, hbl2, a2, l2, k2, d0, d1, d2, d3, d4, hrow2, _⟩ := IsRuls.at (IsRuls.below HR2.out hb) (i := q) (by omega)
      have e1 := hrow1.len
      have e2 := hrow2.len
      have e12 : l2 = l1 := by omega
      subst e12
      have HE : Hid (∀ w', Below wr.heap.size wr w' → Calls Tryz.prog 59 #[.agg #[.int .i64 rs[q].ev, .int .i64 rs[q].at_, .int .i64 rs[q].fr, .int .i64 rs[q].to_, .slice a1 l2 k1], .agg #[.int .i64 rs[q].ev, .int .i64 rs[q].at_, .int .i64 rs[q].fr, .int .i64 rs[q].to_, .slice a2 l2 k2]] w' fun e w'' => e = .returned (.bool true) ∧ Below w'.heap.size w' w'') :=
        fun w' hb' => eqCalRule _ _ _ _ a1 a2 l2 k1 k2 rs[q].but w' (hrow1.below hb') (hrow2.below hb')
      go_wp2_with fail
      go_region_with (go_at_call 59; refine (HE.out _ (by first | exact Below.refl _ _ | exact (Below.refl _ _).drew)).mono ?_; rintro e w1 ⟨rfl, hw1⟩)
      all_goals
        go_wp2_with fail
        go_roundw
        case rel => exact ⟨q + 1, by go_num, by omega, bcall hb.drew hb.size hw1⟩
        case measure => simp [intOf]; omega
    · go_wp2_with fail
      go_ret
      exact ⟨rfl, hb⟩
end Go.Proofs.YtghocdiddolinaaGreatDoor
