/- The model's l42Comes. (Written by wip/gen/gen_ut2.py.) -/
import Derived.Test.YtghocdiddolinaaGreatDoorJ11
import Derived.Test.YtghocdiddolinaaGreatDoorJ23
import Derived.Test.YtghocdiddolinaaGreatDoorJ24
import Derived.Test.YtghocdiddolinaaGreatDoorJ16
namespace Go.Proofs.YtghocdiddolinaaGreatDoor
set_option linter.unusedVariables false
set_option linter.unusedSimpArgs false
open Go.RowKit Go
namespace Pl
open Dr (ButO rowB rowB_own rowB_pos)

theorem wp_callFour {P : Program} {o : Oper} {a : Act} {K : Act → World → Prop} {Q : Exit → Act → World → Prop} {w : World} {f : Nat} {R : Ending → World → Prop} {v u p q : Value} (hc : Calls P f #[v, u, p, q] w R) (hR : ∀ e w', R e w' → ∃ r, e = .returned r) (en : ∀ args w, (callFunc f args).run P w = .ok (.enter f args) w) (s t x y : Operand) (tys : Array TypeId) {d : Option Nat} (hd : o.dst = d)
    (ho : o.op = .call { callee := .value (.func f), args := #[s, t, x, y], argTypes := tys }) (hs : a.eval s = v) (ht : a.eval t = u) (hx : a.eval x = p) (hy : a.eval y = q) (h : ∀ r w', R (.returned r) w' → K (a.put d r) w') : Oper.wp P o a w K Q := by
  have hx' : (execOp a.eval o).run P w = .ok (.enter f #[v, u, p, q]) w := by
    unfold execOp
    simp [ho, resolve, invoke, go_sem, en, hs, ht, hx, hy]
    refine ⟨?_, ?_, ?_, ?_⟩
    · rw [← hs]; cases s <;> first | rfl | simp [Act.eval]
    · rw [← ht]; cases t <;> first | rfl | simp [Act.eval]
    · rw [← hx]; cases x <;> first | rfl | simp [Act.eval]
    · rw [← hy]; cases y <;> first | rfl | simp [Act.eval]
  unfold Oper.wp
  rw [hx', Oper.upon_enter]
  refine hc.mono fun e w' hr => ?_
  obtain ⟨r, rfl⟩ := hR e w' hr
  rw [hd]; exact h r w' hr
theorem tellT_keep {ts : List Tld} (h : ts.length ≤ 60) (t : Tld) : tellT ts t = keep (ts ++ [t]) := by
  rw [← keep_snoc h]; unfold tellT; simp
/-- One more is told. -/
def TellsAt (F : Nat) (ra : Option Addr) (rl rc : Nat) (pol win last tick what : Int) : Prop :=
  ∀ (vg vw vt vo : Value) (gs ws : List Int) (ts os : List Tld) (w : World), Und w F vg vw vt vo gs ws ts os → F ≤ w.heap.size → ts.length ≤ 60 → os.length ≤ 1099511627776 →
    Calls Tryz.prog 23 #[.agg #[.slice ra rl rc, .int .i64 pol, .int .i64 win, .int .i64 last, vg, vw, vt], vo, .int .i64 tick, .int .i64 what] w fun e w' => (∃ vt' vo', e = .returned (.tuple #[.agg #[.slice ra rl rc, .int .i64 pol, .int .i64 win, .int .i64 last, vg, vw, vt'], vo']) ∧ Und w' F vg vw vt' vo' gs ws (keep (ts ++ [⟨tick, what⟩])) (os ++ [⟨tick, what⟩])) ∧ Below F w w' ∧ Plans w w'
theorem tellsAt (F : Nat) (ra : Option Addr) (rl rc : Nat) (pol win last tick what : Int) : TellsAt F ra rl rc pol win last tick what := fun vg vw vt vo gs ws ts os w hU hF hn ho => by
  have h := tells ra rl rc pol win last vg vw vt vo gs ws ts os tick what w F hU hF (by omega) ho
  rw [tellT_keep hn] at h
  exact h.mono fun e w' hr => ⟨hr.1, hr.2.1, hr.2.2.plans⟩
/-- The first of a row of numbers. -/
theorem but_first {w : World} {F : Nat} {v : Value} {zs : List Int} (h : ButO w F v zs) (hn : 0 < zs.length) : ∃ g c, v = .slice (some ⟨g, 0, none⟩) zs.length c ∧ w.cell? ⟨g, 0, none⟩ = some (.int .i64 (zs.getD 0 0)) ∧ zs.length ≤ c := by
  rcases h with ⟨h1, _⟩ | h
  · omega
  · rcases h.2 with ⟨rfl, h2⟩ | ⟨g, cap, cur, rfl, h3, h4, h5, h6, h7, h8⟩
    · omega
    · refine ⟨g, cap, rfl, ?_, h5⟩
      rw [cell_of_row _ _ _ _ _ _ h4]
      have e1 : (zs.map (Value.int .i64))[0]? = some (.int .i64 (zs.getD 0 0)) := by
        cases zs with
        | nil => simp at hn
        | cons z r => rfl
      rw [← h8, List.getElem?_take] at e1
      split at e1
      · simpa using e1
      · cases e1

def PlaV (ra : Option Addr) (rl rc : Nat) (pol win last : Int) (vg vw vt : Value) : Array Value := #[.slice ra rl rc, .int .i64 pol, .int .i64 win, .int .i64 last, vg, vw, vt]
def frameC (n : Nat) (tick : Int) (T xs : Nat → Value) : Act := { tmps := #[T 0, xs 11, .int .i64 tick, .pointer (some ⟨n, 0, none⟩), T 4, T 5, .pointer (some ⟨n + 1, 0, none⟩), T 7, T 8, T 9, T 10, T 11, T 12, T 13, T 14, T 15, T 16, T 17, T 18, T 19, T 20, T 21, T 22, T 23, T 24, T 25, xs 7, xs 0, xs 1, xs 2, xs 3, xs 4, xs 5, xs 6, xs 8, xs 9, T 36, T 37, T 38, T 39, T 40, T 41, T 42, T 43, T 44, T 45, T 46, T 47, T 48, T 49, T 50, T 51, T 52, T 53, T 54, T 55, T 56, T 57, T 58, T 59, T 60, T 61, T 62, T 63, T 64, T 65, T 66, T 67, T 68, T 69, T 70, T 71, T 72, T 73, T 74, T 75, T 76, T 77, T 78, T 79, T 80, T 81, T 82, T 83, T 84, T 85, T 86, T 87, T 88], defers := [] }
/-- What an operation leaves, ahead of the call and behind it. -/
def OkP (n g : Nat) (g0 : Int) (vo vg : Value) (P : Array Value) : Nat → Value → Prop
  | 0, v => v = .agg P
  | 1, v => v = vo
  | 2, v => v = .pointer (some ⟨n, 4, none⟩)
  | 3, v => v = vg
  | 4, v => v = .pointer (some ⟨g, 0, none⟩)
  | 5, v => v = .int .i64 g0
  | _ + 6, _ => True
def OkQ (P : Array Value) (vo : Value) : Nat → Value → Prop
  | 7, v => v = .tuple #[.agg P, vo]
  | 8, v => v = .agg P
  | 9, v => v = vo
  | 11, v => v = vo
  | _, _ => True
section
variable {w0 : World} {n F g : Nat} {g0 : Int} {Pf : Value → Array Value} {vg vw vt vo : Value} {gs ws : List Int} {ts os TS OS : List Tld} {listed : Array Bool} {xs : Nat → Value} {W : World}
def PostC (n F : Nat) (Pf : Value → Array Value) (vg vw : Value) (gs ws : List Int) (TS OS : List Tld) (listed : Array Bool) (xs : Nat → Value) (W : World) (vt' vo' : Value) : Prop :=
  xs 6 = .tuple #[.agg (Pf vt'), vo'] ∧ Und W F vg vw vt' vo' gs ws TS OS ∧ (∀ j, 7 ≤ j → j < 12 → listed.getD j false = true → OkQ (Pf vt') vo' j (xs j)) ∧ (if listed.getD 10 false = true then Holds W n 31 (Pf vt') else ∃ u0 u1 u2 u3 u4 u5 u6, Holds W n 31 #[u0, u1, u2, u3, u4, u5, u6])
structure KC (w0 : World) (n F g : Nat) (g0 : Int) (Pf : Value → Array Value) (vg vw vt vo : Value) (gs ws : List Int) (ts os TS OS : List Tld) (listed : Array Bool) (xs : Nat → Value) (W : World) : Prop where
  below : Below F w0 W
  size : n + 2 ≤ W.heap.size
  pls : Plans w0 W
  r : ∃ u0 u1 u2 u3 u4 u5 u6, Holds W (n + 1) 31 #[u0, u1, u2, u3, u4, u5, u6]
  pre : listed.getD 6 false = false → Und W F vg vw vt vo gs ws ts os ∧ Holds W n 31 (Pf vt) ∧ xs 11 = vo ∧ ∀ j, j < 6 → listed.getD j false = true → OkP n g g0 vo vg (Pf vt) j (xs j)
  post : listed.getD 6 false = true → ∃ vt' vo', PostC n F Pf vg vw gs ws TS OS listed xs W vt' vo'
def InvC (w0 : World) (n F g : Nat) (g0 tick : Int) (Pf : Value → Array Value) (vg vw vt vo : Value) (gs ws : List Int) (ts os TS OS : List Tld) (T : Nat → Value) (listed : Array Bool) (act : Act) (W : World) : Prop :=
  ∃ xs, act = frameC n tick T xs ∧ KC w0 n F g g0 Pf vg vw vt vo gs ws ts os TS OS listed xs W
theorem KC.valP (h : KC w0 n F g g0 Pf vg vw vt vo gs ws ts os TS OS listed xs W) (l6 : listed.getD 6 false = false) {i : Nat} {v : Value} (hi : i < 6) (hok : OkP n g g0 vo vg (Pf vt) i v) : KC w0 n F g g0 Pf vg vw vt vo gs ws ts os TS OS (listed.setIfInBounds i true) (updU xs i v) W := by
  obtain ⟨p1, p2, p3, p4⟩ := h.pre l6
  refine ⟨h.below, h.size, h.pls, h.r, fun _ => ⟨p1, p2, by rw [updU_else xs v (by omega)]; exact p3, fun j hj hl => ?_⟩, fun hh => ?_⟩
  · by_cases e : j = i
    · subst e; rw [updU_same]; exact hok
    · rw [updU_else xs v e]; exact p4 j hj (by rwa [RI.up_else e] at hl)
  · rw [RI.up_else (by omega), l6] at hh; cases hh
theorem KC.valQ (h : KC w0 n F g g0 Pf vg vw vt vo gs ws ts os TS OS listed xs W) (l6 : listed.getD 6 false = true) {i : Nat} {v vt' vo' : Value} (hp : PostC n F Pf vg vw gs ws TS OS listed xs W vt' vo') (hi : 7 ≤ i) (hi10 : i ≠ 10) (hok : OkQ (Pf vt') vo' i v) : KC w0 n F g g0 Pf vg vw vt vo gs ws ts os TS OS (listed.setIfInBounds i true) (updU xs i v) W := by
  obtain ⟨p1, p2, p3, p4⟩ := hp
  refine ⟨h.below, h.size, h.pls, h.r, fun hh => ?_, fun _ => ⟨vt', vo', by rw [updU_else xs v (by omega)]; exact p1, p2, fun j h7 h12 hl => ?_, by rw [RI.up_else (by omega)]; exact p4⟩⟩
  · rw [RI.up_else (by omega), l6] at hh; cases hh
  · by_cases e : j = i
    · subst e; rw [updU_same]; exact hok
    · rw [updU_else xs v e]; exact p3 j h7 h12 (by rwa [RI.up_else e] at hl)
theorem KC.call (hF : F ≤ n) (h : KC w0 n F g g0 Pf vg vw vt vo gs ws ts os TS OS listed xs W) (l6 : listed.getD 6 false = false) (hcl : ∀ j, 7 ≤ j → j < 12 → listed.getD j false = false) (hs : 6 < listed.size) {vt' vo' : Value} {W' : World} {v0 v1 v2 v3 v4 v5 v6 : Value} (hPf : Pf vt = #[v0, v1, v2, v3, v4, v5, v6]) (hu : Und W' F vg vw vt' vo' gs ws TS OS) (hb : Below F W W') (hpl : Plans W W') : KC w0 n F g g0 Pf vg vw vt vo gs ws ts os TS OS (listed.setIfInBounds 6 true) (updU xs 6 (.tuple #[.agg (Pf vt'), vo'])) W' := by
  obtain ⟨p1, p2, p3, p4⟩ := h.pre l6
  obtain ⟨u0, u1, u2, u3, u4, u5, u6, hr⟩ := h.r
  refine ⟨h.below.trans hb, Nat.le_trans h.size hb.size, h.pls.trans hpl, ⟨u0, u1, u2, u3, u4, u5, u6, hpl _ _ hr⟩, fun hh => ?_, fun _ => ⟨vt', vo', by rw [updU_same], hu, fun j h7 h12 hl => ?_, ?_⟩⟩
  · rw [RI.up_same hs] at hh; cases hh
  · rw [RI.up_else (by omega), hcl j h7 h12] at hl; cases hl
  · rw [RI.up_else (by decide), hcl 10 (by decide) (by decide)]
    have h2 := hpl _ _ p2
    rw [hPf] at h2
    exact ⟨_, _, _, _, _, _, _, h2⟩
theorem KC.store (hF : F ≤ n) (hn0 : w0.heap.size ≤ n) (h : KC w0 n F g g0 Pf vg vw vt vo gs ws ts os TS OS listed xs W) (l6 : listed.getD 6 false = true) (l10 : listed.getD 10 false = false) (hs : 10 < listed.size) {vt' vo' : Value} (hp : PostC n F Pf vg vw gs ws TS OS listed xs W vt' vo') {v0 v1 v2 v3 v4 v5 v6 : Value} (hPf : Pf vt' = #[v0, v1, v2, v3, v4, v5, v6]) : KC w0 n F g g0 Pf vg vw vt vo gs ws ts os TS OS (listed.setIfInBounds 10 true) xs (((((((W.setCell ⟨n, 0, none⟩ v0).setCell ⟨n, 1, none⟩ v1).setCell ⟨n, 2, none⟩ v2).setCell ⟨n, 3, none⟩ v3).setCell ⟨n, 4, none⟩ v4).setCell ⟨n, 5, none⟩ v5).setCell ⟨n, 6, none⟩ v6) := by
  obtain ⟨p1, p2, p3, p4⟩ := hp
  obtain ⟨t0, t1, t2, t3, t4, t5, t6, hr⟩ := h.r
  rw [l10] at p4
  obtain ⟨u0, u1, u2, u3, u4, u5, u6, p4⟩ := (show ∃ u0 u1 u2 u3 u4 u5 u6, Holds W n 31 #[u0, u1, u2, u3, u4, u5, u6] from p4)
  obtain ⟨k7, s7⟩ := fill7H p4 v0 v1 v2 v3 v4 v5 v6
  refine ⟨below7U h.below hF _ _ _ _ _ _ _, by simpa using h.size, fun k cur hk => (set7_else (by have := (Array.getElem?_eq_some_iff.1 hk).1; omega) _ _ _ _ _ _ _).trans (h.pls k cur hk), ⟨t0, t1, t2, t3, t4, t5, t6, (set7_else (by omega) _ _ _ _ _ _ _).trans hr⟩, fun hh => ?_, fun _ => ⟨vt', vo', p1, p2.same s7, fun j h7 h12 hl => ?_, ?_⟩⟩
  · rw [RI.up_else (by decide), l6] at hh; cases hh
  · by_cases e : j = 10
    · subst e; exact trivial
    · exact p3 j h7 h12 (by rwa [RI.up_else e] at hl)
  · rw [RI.up_same hs, if_pos rfl, hPf]; exact k7
theorem KC.new (hb : Below F w0 W) (hs : n + 2 ≤ W.heap.size) (hpl : Plans w0 W) {u0 u1 u2 u3 u4 u5 u6 : Value} (hr : Holds W (n + 1) 31 #[u0, u1, u2, u3, u4, u5, u6]) (hu : Und W F vg vw vt vo gs ws ts os) (hp : Holds W n 31 (Pf vt)) : KC w0 n F g g0 Pf vg vw vt vo gs ws ts os TS OS (Array.replicate 12 false) (fun j => if j = 11 then vo else undef) W.drew := by
  have dr : Below W.heap.size W W.drew := (Below.refl _ _).drew
  exact ⟨hb.drew, hs, hpl.trans (Plans.below dr), ⟨u0, u1, u2, u3, u4, u5, u6, hr.below dr⟩, fun _ => ⟨hu.below dr, hp.below dr, rfl, fun j _ h => by (rw [RI.up_new] at h; cases h)⟩, fun h => by (rw [RI.up_new] at h; cases h)⟩
theorem InvC.new {tick : Int} {T : Nat → Value} {act : Act} (h : KC w0 n F g g0 Pf vg vw vt vo gs ws ts os TS OS (Array.replicate 12 false) xs W) (ha : act = frameC n tick T xs) : InvC w0 n F g g0 tick Pf vg vw vt vo gs ws ts os TS OS T (Array.replicate 12 false) act W := ⟨xs, ha, h⟩
end

set_option maxRecDepth 4000 in
set_option maxHeartbeats 4000000 in
theorem comesU (ra : Option Addr) (rl rc : Nat) (pol win last : Int) (vg vw vt vo : Value) (gs ws : List Int) (ts os : List Tld) (tick : Int) (w : World) (F : Nat) (hU : Und w F vg vw vt vo gs ws ts os) (hF : F ≤ w.heap.size) (hn : ts.length ≤ 60) (ho : os.length ≤ 1048576) (hg : gs.length ≤ 1048576) (hw : ws.length ≤ 1048576) :
    Calls Tryz.prog 24 #[.agg #[.slice ra rl rc, .int .i64 pol, .int .i64 win, .int .i64 last, vg, vw, vt], vo, .int .i64 tick] w fun e w' => (∃ vg' vw' vt' vo', e = .returned (.tuple #[.agg #[.slice ra rl rc, .int .i64 pol, .int .i64 win, .int .i64 last, vg', vw', vt'], vo']) ∧ Und w' F vg' vw' vt' vo' (comes pol gs ws tick).1 (comes pol gs ws tick).2.1 (keep (ts ++ (comes pol gs ws tick).2.2)) (os ++ (comes pol gs ws tick).2.2)) ∧ Below F w w' ∧ Plans w w' := by
  obtain ⟨ga, gc, rfl⟩ := hU.goes.form
  obtain ⟨wa, wc, rfl⟩ := hU.waits.form
  obtain ⟨ta, tc, rfl⟩ := hU.told.form
  obtain ⟨oa, oc, rfl⟩ := hU.out.form
  have HU : Hid _ := hU
  clear hU
  have HM : Hid (∀ w, Calls Tryz.prog 44 #[.int .i64 pol] w fun e w' => e = .returned (.tuple #[.int .i64 (mostG pol), .int .i64 (mostW pol)]) ∧ w' = w) := fun w => l42Most pol w
  have HT : Hid (∀ tick what, TellsAt F ra rl rc pol win last tick what) := fun tick what => tellsAt F ra rl rc pol win last tick what
  have HBX : Hid _ := boxes2_new w 31 31 #[.slice ra rl rc, .int .i64 pol, .int .i64 win, .int .i64 last, .slice ga gs.length gc, .slice wa ws.length wc, .slice ta ts.length tc] #[.slice none 0 0, .int .i64 0, .int .i64 0, .int .i64 0, .slice none 0 0, .slice none 0 0, .slice none 0 0]
  have HB : Hid (Below w.heap.size w ((w.alloc (.cells #[.slice ra rl rc, .int .i64 pol, .int .i64 win, .int .i64 last, .slice ga gs.length gc, .slice wa ws.length wc, .slice ta ts.length tc] 31)).alloc (.cells #[.slice none 0 0, .int .i64 0, .int .i64 0, .int .i64 0, .slice none 0 0, .slice none 0 0, .slice none 0 0] 31))) := ((Below.refl w.heap.size w).alloc (Nat.le_refl _) _).alloc (by simp) _
  go_enter Tryz.func24, Tryz.ntmps24
  go_wp2_with fail
  refine (HM.out _).mono ?_
  rintro e w1 ⟨rfl, e1⟩
  have HX : Hid _ := HBX.out.1
  have HR : Hid _ := HBX.out.2
  have HB1 : Hid _ := HB.out
  rw [← e1] at HX HR HB1
  have hsz : w.heap.size + 2 ≤ w1.heap.size := by rw [e1]; simp
  clear HBX HB e1
  obtain ⟨x0, x1, x2, x3, x4, x5, x6, xf⟩ := sevenOf HX.out
  have HU1 : Hid _ := HU.out.below HB1.out
  by_cases hA : pol = 5 ∧ 0 < gs.length
  · obtain ⟨hp5, hgl⟩ := hA
    have hA1 : (pol == 5) = true := by simp [hp5]
    have hA2 : (0 : Int) < (gs.length : Int) := by omega
    have HP5 : Hid (pol = 5) := hp5
    clear hp5
    go_upto_region 3 with fail
    obtain ⟨g0, hg00⟩ : ∃ g0, gs.getD 0 0 = g0 := ⟨_, rfl⟩
    have HG0 : Hid (gs.getD 0 0 = g0) := hg00
    clear hg00
    obtain ⟨g, c, eg, hg0, hgc⟩ := but_first HU1.out.goes hgl
    simp only [Value.slice.injEq, true_and] at eg
    obtain ⟨rfl, rfl⟩ := eg
    clear hg0
    have HK : Hid (KC w w.heap.size F g g0 (PlaV ra rl rc pol win last (.slice (some ⟨g, 0, none⟩) gs.length gc) (.slice wa ws.length wc)) (.slice (some ⟨g, 0, none⟩) gs.length gc) (.slice wa ws.length wc) (.slice ta ts.length tc) (.slice oa os.length oc) gs ws ts os (keep (ts ++ [⟨g0, 4⟩])) (os ++ [⟨g0, 4⟩]) (Array.replicate 12 false) (fun j => if j = 11 then (.slice oa os.length oc) else undef) w1.drew) := by
      have k1 : Below F w w1 := HB1.out.mono hF
      have k2 : w.heap.size + 2 ≤ w1.heap.size := hsz
      have k3 : Plans w w1 := Plans.below HB1.out
      have k4 := HR.out
      have k5 := HX.out
      have k6 : Holds w1 w.heap.size 31 ((PlaV ra rl rc pol win last (.slice (some ⟨g, 0, none⟩) gs.length gc) (.slice wa ws.length wc)) (.slice ta ts.length tc)) := k5
      have k7 := HU1.out
      exact KC.new k1 k2 k3 k4 k7 k6
    have HT4 := HT.out g0 4
    have HT4 : Hid (TellsAt F ra rl rc pol win last g0 4) := HT4
    clear HX HR HB1 HU1 x0 x1 x2 x3 x4 x5 x6 xf hsz HM HU
    refine wp_region_noPanic (wp_frameU _ (frameC w.heap.size tick) (fun j => if j = 11 then (.slice oa os.length oc) else undef) (by kernel_rfl) fun T => ?_)
    have hI : InvC w w.heap.size F g g0 tick (PlaV ra rl rc pol win last (.slice (some ⟨g, 0, none⟩) gs.length gc) (.slice wa ws.length wc)) (.slice (some ⟨g, 0, none⟩) gs.length gc) (.slice wa ws.length wc) (.slice ta ts.length tc) (.slice oa os.length oc) gs ws ts os (keep (ts ++ [⟨g0, 4⟩])) (os ++ [⟨g0, 4⟩]) T (Array.replicate 12 false) (frameC w.heap.size tick T (fun j => if j = 11 then (.slice oa os.length oc) else undef)) w1.drew := ⟨_, rfl, HK.out⟩
    refine RI.wp_region_invN 12 (by kernel_rfl) (by kernel_rfl) (by kernel_rfl) (InvC w w.heap.size F g g0 tick (PlaV ra rl rc pol win last (.slice (some ⟨g, 0, none⟩) gs.length gc) (.slice wa ws.length wc)) (.slice (some ⟨g, 0, none⟩) gs.length gc) (.slice wa ws.length wc) (.slice ta ts.length tc) (.slice oa os.length oc) gs ws ts os (keep (ts ++ [⟨g0, 4⟩])) (os ++ [⟨g0, 4⟩]) T) ?h0 (fun i o listed act W hi hs hl haft hcl hinv => ?_) (fun listed act W hs hall hinv => ?_)
    case h0 => with_reducible exact hI
    case refine_2 =>
      obtain ⟨xs, rfl, hK⟩ := hinv
      have l6 : listed.getD 6 false = true := by have := hall 6 (by decide); simpa [Array.getD, hs] using this
      have l10 : listed.getD 10 false = true := by have := hall 10 (by decide); simpa [Array.getD, hs] using this
      have l11 : listed.getD 11 false = true := by have := hall 11 (by decide); simpa [Array.getD, hs] using this
      obtain ⟨vt', vo', hp⟩ := hK.post l6
      have e11 : xs 11 = vo' := hp.2.2.1 11 (by decide) (by decide) l11
      have hpp := hp.2.2.2
      rw [l10, if_pos rfl] at hpp
      obtain ⟨u0, u1, u2, u3, u4, u5, u6, hr⟩ := hK.r
      have HFI : Hid _ := And.intro hK.below (And.intro hK.pls (And.intro hp.2.1 (And.intro hpp hr)))
      have hW2 := hK.size
      obtain ⟨ta2, tc2, rfl⟩ := hp.2.1.told.form
      obtain ⟨oa2, oc2, rfl⟩ := hp.2.1.out.form
      simp only [frameC, e11]
      clear e11 hp hr hK l6 l10 l11 hall hs
      generalize hL1 : (keep (ts ++ [(⟨g0, 4⟩ : Tld)])).length = L1 at HFI hpp ⊢
      generalize hL2 : (os ++ [(⟨g0, 4⟩ : Tld)]).length = L2 at HFI hpp ⊢
      clear hL1 hL2
      obtain ⟨y0, y1, y2, y3, y4, y5, y6, yf⟩ := sevenOf hpp
      clear hpp
      have hq : Holds W w.heap.size 31 #[.slice ra rl rc, .int .i64 pol, .int .i64 win, .int .i64 last, .slice (some ⟨g, 0, none⟩) gs.length gc, .slice wa ws.length wc, .slice ta2 L1 tc2] := HFI.out.2.2.2.1
      have hk : ∀ (L : Nat) (W : World) (vn : Value), Holds W w.heap.size 31 #[.slice ra rl rc, .int .i64 pol, .int .i64 win, .int .i64 last, .slice (some ⟨g, 0, none⟩) gs.length gc, .slice wa ws.length wc, .slice ta2 L tc2] → SameP W (W.setCell ⟨w.heap.size, 4, none⟩ vn) := fun L W vn h => (box_set (cur' := #[.slice ra rl rc, .int .i64 pol, .int .i64 win, .int .i64 last, vn, .slice wa ws.length wc, .slice ta2 L tc2]) h 4 vn rfl).2
      have s4 := hk _ _ (.slice (some ⟨W.heap.size, 0, none⟩) 1 1) hq
      clear hk hq
      have al : Below (W.setCell ⟨w.heap.size, 4, none⟩ (.slice (some ⟨W.heap.size, 0, none⟩) 1 1)).heap.size (W.setCell ⟨w.heap.size, 4, none⟩ (.slice (some ⟨W.heap.size, 0, none⟩) 1 1)) ((W.setCell ⟨w.heap.size, 4, none⟩ (.slice (some ⟨W.heap.size, 0, none⟩) 1 1)).alloc (.cells #[.int .i64 tick] 3)) := (Below.refl _ _).alloc (Nat.le_refl _) _
      have huc := Und.oneG (z := tick) (HFI.out.2.2.1.same s4) (by simp; omega)
      rw [World.size_setCell] at huc
      have HUc : Hid _ := huc
      have HRc : Hid _ := (holds_else HFI.out.2.2.2.2 (M := w.heap.size) (by omega) 4 (.slice (some ⟨W.heap.size, 0, none⟩) 1 1)).below al
      have HBc : Hid (Below F w ((W.setCell ⟨w.heap.size, 4, none⟩ (.slice (some ⟨W.heap.size, 0, none⟩) 1 1)).alloc (.cells #[.int .i64 tick] 3)) ∧ w.heap.size ≤ ((W.setCell ⟨w.heap.size, 4, none⟩ (.slice (some ⟨W.heap.size, 0, none⟩) 1 1)).alloc (.cells #[.int .i64 tick] 3)).heap.size) := ⟨bcall (HFI.out.1.setCell (p := ⟨w.heap.size, 4, none⟩) hF _) (by simp; omega) al, by simp; omega⟩
      have HPc : Hid (Plans w ((W.setCell ⟨w.heap.size, 4, none⟩ (.slice (some ⟨W.heap.size, 0, none⟩) 1 1)).alloc (.cells #[.int .i64 tick] 3))) := fun k cur hk => (holds_else (HFI.out.2.1 k cur hk) (by have := (Array.getElem?_eq_some_iff.1 hk).1; omega) 4 _).below al
      clear huc
      have HCM : Hid (comes pol gs ws tick = ([tick], ws, [⟨g0, 4⟩, ⟨tick, 1⟩])) := by show comes pol gs ws tick = _; unfold comes; rw [if_pos ⟨HP5.out, hgl⟩, HG0.out]
      have hlt0 : w.heap.size < W.heap.size := by omega
      have hlt1 : w.heap.size + 1 < W.heap.size := by omega
      have hne0 : ¬ w.heap.size = W.heap.size := by omega
      have hne1 : ¬ w.heap.size + 1 = W.heap.size := by omega
      clear al s4 HFI HT4 hA1 hA2
      refine NoPanic.normal ?_
      go_wp2_with fail
      refine (HT.out tick 1 _ _ _ _ [tick] ws _ _ _ HUc.out (Nat.le_trans hF (by have := HBc.out.2; omega)) (keep_len _) (by simp; omega)).mono ?_
      rintro e w9 ⟨⟨vt9, vo9, rfl, hu9⟩, hb9, hpl9⟩
      obtain ⟨ta9, tl9, tc9, rfl⟩ : ∃ a l c, vt9 = .slice a l c := by obtain ⟨a, c, e⟩ := hu9.told.form; exact ⟨a, _, c, e⟩
      obtain ⟨oa9, ol9, oc9, rfl⟩ : ∃ a l c, vo9 = .slice a l c := by obtain ⟨a, c, e⟩ := hu9.out.form; exact ⟨a, _, c, e⟩
      have hr9 := hpl9 _ _ HRc.out
      have HU9 : Hid _ := hu9
      have HF9 : Hid (Below F w w9 ∧ Plans w w9) := ⟨HBc.out.1.trans hb9, HPc.out.trans hpl9⟩
      have HR9 : Hid _ := hr9
      clear hu9 hb9 hpl9 HUc HRc HBc HPc
      obtain ⟨q0, q1, q2, q3, q4, q5, q6, qf⟩ := sevenOf hr9
      clear hr9
      go_wp2_with fail
      obtain ⟨k7, s7⟩ := fill7H HR9.out (.slice ra rl rc) (.int .i64 pol) (.int .i64 win) (.int .i64 last) (.slice (some ⟨W.heap.size, 0, none⟩) 1 1) (.slice wa ws.length wc) (.slice ta9 tl9 tc9)
      obtain ⟨r0, r1, r2, r3, r4, r5, r6, rf⟩ := sevenOf k7
      refine bodyPost_ret (v := .tuple #[.agg #[.slice ra rl rc, .int .i64 pol, .int .i64 win, .int .i64 last, (.slice (some ⟨W.heap.size, 0, none⟩) 1 1), (.slice wa ws.length wc), (.slice ta9 tl9 tc9)], .slice oa9 ol9 oc9]) ?_ rfl ?_
      · simp [results, Tryz.results24, go_sem, r0, r1, r2, r3, r4, r5, r6]
        try rfl
      · rw [HCM.out]
        refine ⟨⟨_, _, _, _, rfl, ?_⟩, below7U HF9.out.1 (by omega) _ _ _ _ _ _ _, fun k cur hk => (set7_else (by have := (Array.getElem?_eq_some_iff.1 hk).1; omega) _ _ _ _ _ _ _).trans (HF9.out.2 k cur hk)⟩
        have h := HU9.out.same s7
        rw [keep_keep, List.append_assoc, List.append_assoc] at h
        exact h
    obtain ⟨xs, rfl, hK⟩ := hinv
    rcases (show i = 0 ∨ i = 1 ∨ i = 2 ∨ i = 3 ∨ i = 4 ∨ i = 5 ∨ i = 6 ∨ i = 7 ∨ i = 8 ∨ i = 9 ∨ i = 10 ∨ i = 11 by have : i < 12 := (Array.getElem?_eq_some_iff.1 hi).1; omega) with rfl | rfl | rfl | rfl | rfl | rfl | rfl | rfl | rfl | rfl | rfl | rfl
    · have ho' := Option.some.inj hi
      subst ho'
      have l6 : listed.getD 6 false = false := hcl.not 20 (by kernel_rfl) hl
      obtain ⟨p1, p2, p3, p4⟩ := hK.pre l6
      obtain ⟨y0, y1, y2, y3, y4, y5, y6, yf⟩ := sevenOf p2
      exact RI.op_val (d := some 27) (v := .agg ((PlaV ra rl rc pol win last (.slice (some ⟨g, 0, none⟩) gs.length gc) (.slice wa ws.length wc)) (.slice ta ts.length tc))) hi (by kernel_rfl) rfl (by simp [go_sem, frameC, PlaV, y0, y1, y2, y3, y4, y5, y6]) ⟨_, by kernel_rfl, hK.valP l6 (by decide) rfl⟩
    · have ho' := Option.some.inj hi
      subst ho'
      have l6 : listed.getD 6 false = false := hcl.not 20 (by kernel_rfl) hl
      obtain ⟨p1, p2, p3, p4⟩ := hK.pre l6
      exact RI.op_val (d := some 28) (v := (.slice oa os.length oc)) hi (by kernel_rfl) rfl (by simp [go_sem, frameC, p3]) ⟨_, by kernel_rfl, hK.valP l6 (by decide) rfl⟩
    · have ho' := Option.some.inj hi
      subst ho'
      have l6 : listed.getD 6 false = false := hcl.not 20 (by kernel_rfl) hl
      obtain ⟨p1, p2, p3, p4⟩ := hK.pre l6
      exact RI.op_val (d := some 29) (v := .pointer (some ⟨w.heap.size, 4, none⟩)) hi (by kernel_rfl) rfl (by simp [go_sem, frameC]) ⟨_, by kernel_rfl, hK.valP l6 (by decide) rfl⟩
    · have ho' := Option.some.inj hi
      subst ho'
      have l6 : listed.getD 6 false = false := hcl.not 20 (by kernel_rfl) hl
      obtain ⟨p1, p2, p3, p4⟩ := hK.pre l6
      obtain ⟨y0, y1, y2, y3, y4, y5, y6, yf⟩ := sevenOf p2
      have d2 : xs 2 = .pointer (some ⟨w.heap.size, 4, none⟩) := p4 2 (by decide) (RI.dep haft 2 (by kernel_rfl))
      exact RI.op_val (d := some 30) (v := (.slice (some ⟨g, 0, none⟩) gs.length gc)) hi (by kernel_rfl) rfl (by simp [go_sem, frameC, d2, y4]) ⟨_, by kernel_rfl, hK.valP l6 (by decide) rfl⟩
    · have ho' := Option.some.inj hi
      subst ho'
      have l6 : listed.getD 6 false = false := hcl.not 20 (by kernel_rfl) hl
      obtain ⟨p1, p2, p3, p4⟩ := hK.pre l6
      have d3 : xs 3 = (.slice (some ⟨g, 0, none⟩) gs.length gc) := p4 3 (by decide) (RI.dep haft 3 (by kernel_rfl))
      exact RI.op_val (d := some 31) (v := .pointer (some ⟨g, 0, none⟩)) hi (by kernel_rfl) rfl (by simp [go_sem, frameC, d3, hA2, hgl]) ⟨_, by kernel_rfl, hK.valP l6 (by decide) rfl⟩
    · have ho' := Option.some.inj hi
      subst ho'
      have l6 : listed.getD 6 false = false := hcl.not 20 (by kernel_rfl) hl
      obtain ⟨p1, p2, p3, p4⟩ := hK.pre l6
      obtain ⟨g', c', eg', c0, _⟩ := but_first p1.goes hgl
      simp only [Value.slice.injEq, Option.some.injEq, Addr.mk.injEq, and_true, true_and] at eg'
      obtain ⟨rfl, rfl⟩ := eg'
      rw [HG0.out] at c0
      have d4 : xs 4 = .pointer (some ⟨g, 0, none⟩) := p4 4 (by decide) (RI.dep haft 4 (by kernel_rfl))
      exact RI.op_val (d := some 32) (v := .int .i64 g0) hi (by kernel_rfl) rfl (by simp [go_sem, frameC, d4, c0]) ⟨_, by kernel_rfl, hK.valP l6 (by decide) rfl⟩
    · have ho' := Option.some.inj hi
      subst ho'
      have l6 : listed.getD 6 false = false := hcl.not 20 (by kernel_rfl) hl
      obtain ⟨p1, p2, p3, p4⟩ := hK.pre l6
      have d0 : xs 0 = .agg ((PlaV ra rl rc pol win last (.slice (some ⟨g, 0, none⟩) gs.length gc) (.slice wa ws.length wc)) (.slice ta ts.length tc)) := p4 0 (by decide) (RI.dep haft 0 (by kernel_rfl))
      have d1 : xs 1 = (.slice oa os.length oc) := p4 1 (by decide) (RI.dep haft 1 (by kernel_rfl))
      have d5 : xs 5 = .int .i64 g0 := p4 5 (by decide) (RI.dep haft 5 (by kernel_rfl))
      refine RI.op_one hi (by kernel_rfl) fun KK hKK => ?_
      refine wp_callFour (HT4.out _ _ _ _ gs ws ts os W p1 (by have := hK.size; omega) hn (by omega)) (fun e w' h => by obtain ⟨⟨vt', vo', h, _⟩, _⟩ := h; exact ⟨_, h⟩) (enters_of Tryz.func23 (by kernel_rfl) rfl) _ _ _ _ _ (d := some 33) rfl (by rfl) ((show _ = xs 0 by kernel_rfl).trans d0) ((show _ = xs 1 by kernel_rfl).trans d1) ((show _ = xs 5 by kernel_rfl).trans d5) (by rfl) ?_
      rintro r w5 ⟨⟨vt', vo', he, hu⟩, hb, hpl⟩
      cases he
      exact hKK _ _ ⟨_, by kernel_rfl, hK.call hF l6 (fun j h7 h12 => by rcases (show j = 7 ∨ j = 8 ∨ j = 9 ∨ j = 10 ∨ j = 11 by omega) with rfl | rfl | rfl | rfl | rfl <;> exact hcl.not 20 (by kernel_rfl) hl) (by rw [hs]; decide) rfl hu hb hpl⟩
    · have ho' := Option.some.inj hi
      subst ho'
      have lk : listed.getD 6 false = true := RI.dep haft 6 (by kernel_rfl)
      have l6 : listed.getD 6 false = true := hcl.reach 20 6 6 (by kernel_rfl) lk
      obtain ⟨vt', vo', hp⟩ := hK.post l6
      have e6 : xs 6 = .tuple #[.agg ((PlaV ra rl rc pol win last (.slice (some ⟨g, 0, none⟩) gs.length gc) (.slice wa ws.length wc)) vt'), vo'] := hp.1
      exact RI.op_val (d := some 26) (v := .tuple #[.agg ((PlaV ra rl rc pol win last (.slice (some ⟨g, 0, none⟩) gs.length gc) (.slice wa ws.length wc)) vt'), vo']) hi (by kernel_rfl) rfl (by simp [go_sem, frameC, e6]) ⟨_, by kernel_rfl, hK.valQ l6 hp (by decide) (by decide) rfl⟩
    · have ho' := Option.some.inj hi
      subst ho'
      have lk : listed.getD 7 false = true := RI.dep haft 7 (by kernel_rfl)
      have l6 : listed.getD 6 false = true := hcl.reach 20 7 6 (by kernel_rfl) lk
      obtain ⟨vt', vo', hp⟩ := hK.post l6
      have e7 : xs 7 = .tuple #[.agg ((PlaV ra rl rc pol win last (.slice (some ⟨g, 0, none⟩) gs.length gc) (.slice wa ws.length wc)) vt'), vo'] := hp.2.2.1 7 (by decide) (by decide) lk
      exact RI.op_val (d := some 34) (v := .agg ((PlaV ra rl rc pol win last (.slice (some ⟨g, 0, none⟩) gs.length gc) (.slice wa ws.length wc)) vt')) hi (by kernel_rfl) rfl (by simp [go_sem, frameC, e7]) ⟨_, by kernel_rfl, hK.valQ l6 hp (by decide) (by decide) rfl⟩
    · have ho' := Option.some.inj hi
      subst ho'
      have lk : listed.getD 7 false = true := RI.dep haft 7 (by kernel_rfl)
      have l6 : listed.getD 6 false = true := hcl.reach 20 7 6 (by kernel_rfl) lk
      obtain ⟨vt', vo', hp⟩ := hK.post l6
      have e7 : xs 7 = .tuple #[.agg ((PlaV ra rl rc pol win last (.slice (some ⟨g, 0, none⟩) gs.length gc) (.slice wa ws.length wc)) vt'), vo'] := hp.2.2.1 7 (by decide) (by decide) lk
      exact RI.op_val (d := some 35) (v := vo') hi (by kernel_rfl) rfl (by simp [go_sem, frameC, e7]) ⟨_, by kernel_rfl, hK.valQ l6 hp (by decide) (by decide) rfl⟩
    · have ho' := Option.some.inj hi
      subst ho'
      have lk : listed.getD 8 false = true := RI.dep haft 8 (by kernel_rfl)
      have l6 : listed.getD 6 false = true := hcl.reach 20 8 6 (by kernel_rfl) lk
      obtain ⟨vt', vo', hp⟩ := hK.post l6
      obtain ⟨ta2, tc2, rfl⟩ := hp.2.1.told.form
      have d8 : xs 8 = .agg ((PlaV ra rl rc pol win last (.slice (some ⟨g, 0, none⟩) gs.length gc) (.slice wa ws.length wc)) (.slice ta2 (keep (ts ++ [⟨g0, 4⟩])).length tc2)) := hp.2.2.1 8 (by decide) (by decide) lk
      have hpp := hp.2.2.2
      have l10 := RI.not_up hl
      rw [l10] at hpp
      obtain ⟨u0, u1, u2, u3, u4, u5, u6, hpp⟩ := (show ∃ u0 u1 u2 u3 u4 u5 u6, Holds W w.heap.size 31 #[u0, u1, u2, u3, u4, u5, u6] from hpp)
      obtain ⟨y0, y1, y2, y3, y4, y5, y6, yf⟩ := sevenOf hpp
      have hs10 : 10 < listed.size := by rw [hs]; decide
      have HKS : Hid _ := hK.store hF (Nat.le_refl _) l6 l10 hs10 hp rfl
      have e8 := updU_id d8
      rw [e8] at HKS ⊢
      clear e8 d8 hpp hp hK hs10 l10 l6 lk
      generalize (keep (ts ++ [⟨g0, 4⟩])).length = L at HKS ⊢
      refine RI.op_one hi (by kernel_rfl) fun KK hKK => ?_
      simp only [frameC, updU, PlaV]
      go_simp
      exact hKK _ _ ⟨_, by kernel_rfl, HKS.out⟩
    · have ho' := Option.some.inj hi
      subst ho'
      have lk : listed.getD 9 false = true := RI.dep haft 9 (by kernel_rfl)
      have l6 : listed.getD 6 false = true := hcl.reach 20 9 6 (by kernel_rfl) lk
      obtain ⟨vt', vo', hp⟩ := hK.post l6
      have e9 : xs 9 = vo' := hp.2.2.1 9 (by decide) (by decide) lk
      exact RI.op_val (d := some 1) (v := vo') hi (by kernel_rfl) rfl (by simp [go_sem, frameC, e9]) ⟨_, by kernel_rfl, hK.valQ l6 hp (by decide) (by decide) rfl⟩
  · have HA : Hid (¬ (pol = 5 ∧ 0 < gs.length)) := hA
    clear hA HM HU
    by_cases hp5 : pol = 5
    · have hA1 : (pol == 5) = true := by simp [hp5]
      have hA2 : ¬ (0 : Int) < (gs.length : Int) := fun h => HA.out ⟨hp5, by omega⟩
      clear hp5
      by_cases hB1 : (gs.length : Int) < mostG pol
      · by_cases hB0 : ws.length = 0
        · have hB2 : ((ws.length : Int) == 0) = true := by rw [beq_iff_eq]; omega
          have HBB : Hid ((gs.length : Int) < mostG pol ∧ ws.length = 0) := ⟨hB1, hB0⟩
          clear hB0
          have al : Below w1.heap.size w1 (w1.alloc (.cells #[.int .i64 tick] 3)) := (Below.refl _ _).alloc (Nat.le_refl _) _
          have HAL : Hid _ := al
          clear al
          go_upto_region 8 with (at_builtin; refine Dr.wp_push rfl _ _ rfl F (.slice ga gs.length gc) gs rfl (Und.goes (HU1.out.below HAL.out)) ⟨w1.heap.size, 0, none⟩ 1 tick rfl (by first | (rw [World.cell?_alloc_new]; done) | (rw [World.cell?_alloc_new]; rfl)) (by omega) (by simp; omega) ?_; intro v5 w5 q1 q2 q3 q4; have hpi : PushedI (w1.alloc (.cells #[.int .i64 tick] 3)) F (.slice ga gs.length gc) gs tick v5 w5 := ⟨q1, q2, q3, q4⟩; clear q1 q2 q3 q4; obtain ⟨a5, l5, c5, rfl⟩ : ∃ a l c, v5 = .slice a l c := (by obtain ⟨a, c, e⟩ := hpi.1.form; exact ⟨a, _, c, e⟩); have hpl5 := hpi.plans (Und.goes (HU1.out.below HAL.out)); have hx5 := hpl5 _ _ (Holds.below HX.out HAL.out); have HX5 : Hid _ := hx5; have HR5 : Hid _ := hpl5 _ _ (Holds.below HR.out HAL.out); have HU5 : Hid _ := (HU1.out.below HAL.out).pushG hpi; have HB5 : Hid (Below F w w5 ∧ w1.heap.size ≤ w5.heap.size) := ⟨((HB1.out.mono hF).trans (HAL.out.mono (by omega))).trans hpi.2.1, by have := hpi.2.1.size; simp at this; omega⟩; have HP5 : Hid (Plans w w5) := (Plans.below HB1.out).trans ((Plans.below HAL.out).trans hpl5); clear hpi hpl5 x0 x1 x2 x3 x4 x5 x6 xf; obtain ⟨x0, x1, x2, x3, x4, x5, x6, xf⟩ := sevenOf hx5; clear hx5)
          obtain ⟨z4, s4⟩ := box_set (cur' := #[.slice ra rl rc, .int .i64 pol, .int .i64 win, .int .i64 last, .slice a5 l5 c5, .slice wa ws.length wc, .slice ta ts.length tc]) HX5.out 4 (.slice a5 l5 c5) rfl
          have HUc : Hid _ := HU5.out.same s4
          have HRc : Hid _ := holds_else HR5.out (M := w.heap.size) (by omega) 4 (.slice a5 l5 c5)
          have HBc : Hid (Below F w (w5.setCell ⟨w.heap.size, 4, none⟩ (.slice a5 l5 c5)) ∧ w.heap.size ≤ (w5.setCell ⟨w.heap.size, 4, none⟩ (.slice a5 l5 c5)).heap.size) := ⟨HB5.out.1.setCell (p := ⟨w.heap.size, 4, none⟩) hF _, by have := HB5.out.2; simp; omega⟩
          have HPc : Hid (Plans w (w5.setCell ⟨w.heap.size, 4, none⟩ (.slice a5 l5 c5))) := fun k cur hk => holds_else (HP5.out k cur hk) (by have := (Array.getElem?_eq_some_iff.1 hk).1; omega) 4 _
          clear x0 x1 x2 x3 x4 x5 x6 xf s4 HX5 HR5 HU5 HB5 HP5 HX HR HU1 HB1 HAL
          obtain ⟨x0, x1, x2, x3, x4, x5, x6, xf⟩ := sevenOf z4
          clear z4
          generalize (w5.setCell ⟨w.heap.size, 4, none⟩ (.slice a5 l5 c5)) = w6 at HUc HRc HBc HPc x0 x1 x2 x3 x4 x5 x6 xf ⊢
          have HCM : Hid (comes pol gs ws tick = (gs ++ [tick], ws, [⟨tick, 1⟩])) := by show comes pol gs ws tick = _; unfold comes; rw [if_neg HA.out, if_pos HBB.out]
          go_wp2_with fail
          refine (HT.out tick 1 _ _ _ _ (gs ++ [tick]) ws _ _ _ HUc.out (Nat.le_trans hF (by have := HBc.out.2; omega)) hn (by omega)).mono ?_
          rintro e w9 ⟨⟨vt9, vo9, rfl, hu9⟩, hb9, hpl9⟩
          obtain ⟨ta9, tl9, tc9, rfl⟩ : ∃ a l c, vt9 = .slice a l c := by obtain ⟨a, c, e⟩ := hu9.told.form; exact ⟨a, _, c, e⟩
          obtain ⟨oa9, ol9, oc9, rfl⟩ : ∃ a l c, vo9 = .slice a l c := by obtain ⟨a, c, e⟩ := hu9.out.form; exact ⟨a, _, c, e⟩
          have hr9 := hpl9 _ _ HRc.out
          have HU9 : Hid _ := hu9
          have HF9 : Hid (Below F w w9 ∧ Plans w w9) := ⟨HBc.out.1.trans hb9, HPc.out.trans hpl9⟩
          have HR9 : Hid _ := hr9
          clear hu9 hb9 hpl9 HUc HRc HBc HPc
          obtain ⟨q0, q1, q2, q3, q4, q5, q6, qf⟩ := sevenOf hr9
          clear hr9
          go_wp2_with fail
          obtain ⟨k7, s7⟩ := fill7H HR9.out (.slice ra rl rc) (.int .i64 pol) (.int .i64 win) (.int .i64 last) (.slice a5 l5 c5) (.slice wa ws.length wc) (.slice ta9 tl9 tc9)
          obtain ⟨r0, r1, r2, r3, r4, r5, r6, rf⟩ := sevenOf k7
          refine bodyPost_ret (v := .tuple #[.agg #[.slice ra rl rc, .int .i64 pol, .int .i64 win, .int .i64 last, (.slice a5 l5 c5), (.slice wa ws.length wc), (.slice ta9 tl9 tc9)], .slice oa9 ol9 oc9]) ?_ rfl ?_
          · simp [results, Tryz.results24, go_sem, r0, r1, r2, r3, r4, r5, r6]
            try rfl
          · rw [HCM.out]
            refine ⟨⟨_, _, _, _, rfl, ?_⟩, below7U HF9.out.1 (by omega) _ _ _ _ _ _ _, fun k cur hk => (set7_else (by have := (Array.getElem?_eq_some_iff.1 hk).1; omega) _ _ _ _ _ _ _).trans (HF9.out.2 k cur hk)⟩
            have h := HU9.out.same s7
            exact h
        · have hB2 : ((ws.length : Int) == 0) = false := by rw [beq_eq_false_iff_ne]; omega
          have HBB : Hid (¬ ((gs.length : Int) < mostG pol ∧ ws.length = 0)) := fun h => hB0 h.2
          clear hB0
          by_cases hC : (ws.length : Int) < mostW pol
          · have HCC : Hid ((ws.length : Int) < mostW pol) := hC
            have al : Below w1.heap.size w1 (w1.alloc (.cells #[.int .i64 tick] 3)) := (Below.refl _ _).alloc (Nat.le_refl _) _
            have HAL : Hid _ := al
            clear al
            go_upto_region 11 with (at_builtin; refine Dr.wp_push rfl _ _ rfl F (.slice wa ws.length wc) ws rfl (Und.waits (HU1.out.below HAL.out)) ⟨w1.heap.size, 0, none⟩ 1 tick rfl (by first | (rw [World.cell?_alloc_new]; done) | (rw [World.cell?_alloc_new]; rfl)) (by omega) (by simp; omega) ?_; intro v5 w5 q1 q2 q3 q4; have hpi : PushedI (w1.alloc (.cells #[.int .i64 tick] 3)) F (.slice wa ws.length wc) ws tick v5 w5 := ⟨q1, q2, q3, q4⟩; clear q1 q2 q3 q4; obtain ⟨a5, l5, c5, rfl⟩ : ∃ a l c, v5 = .slice a l c := (by obtain ⟨a, c, e⟩ := hpi.1.form; exact ⟨a, _, c, e⟩); have hpl5 := hpi.plans (Und.waits (HU1.out.below HAL.out)); have hx5 := hpl5 _ _ (Holds.below HX.out HAL.out); have HX5 : Hid _ := hx5; have HR5 : Hid _ := hpl5 _ _ (Holds.below HR.out HAL.out); have HU5 : Hid _ := (HU1.out.below HAL.out).pushW hpi; have HB5 : Hid (Below F w w5 ∧ w1.heap.size ≤ w5.heap.size) := ⟨((HB1.out.mono hF).trans (HAL.out.mono (by omega))).trans hpi.2.1, by have := hpi.2.1.size; simp at this; omega⟩; have HP5 : Hid (Plans w w5) := (Plans.below HB1.out).trans ((Plans.below HAL.out).trans hpl5); clear hpi hpl5 x0 x1 x2 x3 x4 x5 x6 xf; obtain ⟨x0, x1, x2, x3, x4, x5, x6, xf⟩ := sevenOf hx5; clear hx5)
            obtain ⟨z4, s4⟩ := box_set (cur' := #[.slice ra rl rc, .int .i64 pol, .int .i64 win, .int .i64 last, .slice ga gs.length gc, .slice a5 l5 c5, .slice ta ts.length tc]) HX5.out 5 (.slice a5 l5 c5) rfl
            have HUc : Hid _ := HU5.out.same s4
            have HRc : Hid _ := holds_else HR5.out (M := w.heap.size) (by omega) 5 (.slice a5 l5 c5)
            have HBc : Hid (Below F w (w5.setCell ⟨w.heap.size, 5, none⟩ (.slice a5 l5 c5)) ∧ w.heap.size ≤ (w5.setCell ⟨w.heap.size, 5, none⟩ (.slice a5 l5 c5)).heap.size) := ⟨HB5.out.1.setCell (p := ⟨w.heap.size, 5, none⟩) hF _, by have := HB5.out.2; simp; omega⟩
            have HPc : Hid (Plans w (w5.setCell ⟨w.heap.size, 5, none⟩ (.slice a5 l5 c5))) := fun k cur hk => holds_else (HP5.out k cur hk) (by have := (Array.getElem?_eq_some_iff.1 hk).1; omega) 5 _
            clear x0 x1 x2 x3 x4 x5 x6 xf s4 HX5 HR5 HU5 HB5 HP5 HX HR HU1 HB1 HAL
            obtain ⟨x0, x1, x2, x3, x4, x5, x6, xf⟩ := sevenOf z4
            clear z4
            generalize (w5.setCell ⟨w.heap.size, 5, none⟩ (.slice a5 l5 c5)) = w6 at HUc HRc HBc HPc x0 x1 x2 x3 x4 x5 x6 xf ⊢
            have HCM : Hid (comes pol gs ws tick = (gs, ws ++ [tick], [])) := by show comes pol gs ws tick = _; unfold comes; rw [if_neg HA.out, if_neg HBB.out, if_pos HCC.out]
            have hrc := HRc.out
            obtain ⟨q0, q1, q2, q3, q4, q5, q6, qf⟩ := sevenOf hrc
            clear hrc
            go_wp2_with fail
            obtain ⟨k7, s7⟩ := fill7H HRc.out (.slice ra rl rc) (.int .i64 pol) (.int .i64 win) (.int .i64 last) (.slice ga gs.length gc) (.slice a5 l5 c5) (.slice ta ts.length tc)
            obtain ⟨r0, r1, r2, r3, r4, r5, r6, rf⟩ := sevenOf k7
            refine bodyPost_ret (v := .tuple #[.agg #[.slice ra rl rc, .int .i64 pol, .int .i64 win, .int .i64 last, (.slice ga gs.length gc), (.slice a5 l5 c5), (.slice ta ts.length tc)], .slice oa os.length oc]) ?_ rfl ?_
            · simp [results, Tryz.results24, go_sem, r0, r1, r2, r3, r4, r5, r6]
              try rfl
            · rw [HCM.out]
              refine ⟨⟨_, _, _, _, rfl, ?_⟩, below7U HBc.out.1 (by omega) _ _ _ _ _ _ _, fun k cur hk => (set7_else (by have := (Array.getElem?_eq_some_iff.1 hk).1; omega) _ _ _ _ _ _ _).trans (HPc.out k cur hk)⟩
              rw [List.append_nil, List.append_nil, keep_small hn]
              exact HUc.out.same s7
          · have HCC : Hid (¬ (ws.length : Int) < mostW pol) := hC
            have HCM : Hid (comes pol gs ws tick = (gs, ws, [⟨tick, 2⟩])) := by show comes pol gs ws tick = _; unfold comes; rw [if_neg HA.out, if_neg HBB.out, if_neg HCC.out]
            have HUc : Hid _ := HU1.out
            have HRc : Hid _ := HR.out
            have HBc : Hid (Below F w w1 ∧ w.heap.size ≤ w1.heap.size) := ⟨HB1.out.mono hF, by omega⟩
            have HPc : Hid (Plans w w1) := Plans.below HB1.out
            clear HX HR HU1 HB1
            go_wp2_with fail
            refine (HT.out tick 2 _ _ _ _ gs ws _ _ _ HUc.out (Nat.le_trans hF (by have := HBc.out.2; omega)) hn (by omega)).mono ?_
            rintro e w9 ⟨⟨vt9, vo9, rfl, hu9⟩, hb9, hpl9⟩
            obtain ⟨ta9, tl9, tc9, rfl⟩ : ∃ a l c, vt9 = .slice a l c := by obtain ⟨a, c, e⟩ := hu9.told.form; exact ⟨a, _, c, e⟩
            obtain ⟨oa9, ol9, oc9, rfl⟩ : ∃ a l c, vo9 = .slice a l c := by obtain ⟨a, c, e⟩ := hu9.out.form; exact ⟨a, _, c, e⟩
            have hr9 := hpl9 _ _ HRc.out
            have HU9 : Hid _ := hu9
            have HF9 : Hid (Below F w w9 ∧ Plans w w9) := ⟨HBc.out.1.trans hb9, HPc.out.trans hpl9⟩
            have HR9 : Hid _ := hr9
            clear hu9 hb9 hpl9 HUc HRc HBc HPc
            obtain ⟨q0, q1, q2, q3, q4, q5, q6, qf⟩ := sevenOf hr9
            clear hr9
            go_wp2_with fail
            obtain ⟨k7, s7⟩ := fill7H HR9.out (.slice ra rl rc) (.int .i64 pol) (.int .i64 win) (.int .i64 last) (.slice ga gs.length gc) (.slice wa ws.length wc) (.slice ta9 tl9 tc9)
            obtain ⟨r0, r1, r2, r3, r4, r5, r6, rf⟩ := sevenOf k7
            refine bodyPost_ret (v := .tuple #[.agg #[.slice ra rl rc, .int .i64 pol, .int .i64 win, .int .i64 last, (.slice ga gs.length gc), (.slice wa ws.length wc), (.slice ta9 tl9 tc9)], .slice oa9 ol9 oc9]) ?_ rfl ?_
            · simp [results, Tryz.results24, go_sem, r0, r1, r2, r3, r4, r5, r6]
              try rfl
            · rw [HCM.out]
              refine ⟨⟨_, _, _, _, rfl, ?_⟩, below7U HF9.out.1 (by omega) _ _ _ _ _ _ _, fun k cur hk => (set7_else (by have := (Array.getElem?_eq_some_iff.1 hk).1; omega) _ _ _ _ _ _ _).trans (HF9.out.2 k cur hk)⟩
              have h := HU9.out.same s7
              exact h
      · have HBB : Hid (¬ ((gs.length : Int) < mostG pol ∧ ws.length = 0)) := fun h => hB1 h.1
        by_cases hC : (ws.length : Int) < mostW pol
        · have HCC : Hid ((ws.length : Int) < mostW pol) := hC
          have al : Below w1.heap.size w1 (w1.alloc (.cells #[.int .i64 tick] 3)) := (Below.refl _ _).alloc (Nat.le_refl _) _
          have HAL : Hid _ := al
          clear al
          go_upto_region 11 with (at_builtin; refine Dr.wp_push rfl _ _ rfl F (.slice wa ws.length wc) ws rfl (Und.waits (HU1.out.below HAL.out)) ⟨w1.heap.size, 0, none⟩ 1 tick rfl (by first | (rw [World.cell?_alloc_new]; done) | (rw [World.cell?_alloc_new]; rfl)) (by omega) (by simp; omega) ?_; intro v5 w5 q1 q2 q3 q4; have hpi : PushedI (w1.alloc (.cells #[.int .i64 tick] 3)) F (.slice wa ws.length wc) ws tick v5 w5 := ⟨q1, q2, q3, q4⟩; clear q1 q2 q3 q4; obtain ⟨a5, l5, c5, rfl⟩ : ∃ a l c, v5 = .slice a l c := (by obtain ⟨a, c, e⟩ := hpi.1.form; exact ⟨a, _, c, e⟩); have hpl5 := hpi.plans (Und.waits (HU1.out.below HAL.out)); have hx5 := hpl5 _ _ (Holds.below HX.out HAL.out); have HX5 : Hid _ := hx5; have HR5 : Hid _ := hpl5 _ _ (Holds.below HR.out HAL.out); have HU5 : Hid _ := (HU1.out.below HAL.out).pushW hpi; have HB5 : Hid (Below F w w5 ∧ w1.heap.size ≤ w5.heap.size) := ⟨((HB1.out.mono hF).trans (HAL.out.mono (by omega))).trans hpi.2.1, by have := hpi.2.1.size; simp at this; omega⟩; have HP5 : Hid (Plans w w5) := (Plans.below HB1.out).trans ((Plans.below HAL.out).trans hpl5); clear hpi hpl5 x0 x1 x2 x3 x4 x5 x6 xf; obtain ⟨x0, x1, x2, x3, x4, x5, x6, xf⟩ := sevenOf hx5; clear hx5)
          obtain ⟨z4, s4⟩ := box_set (cur' := #[.slice ra rl rc, .int .i64 pol, .int .i64 win, .int .i64 last, .slice ga gs.length gc, .slice a5 l5 c5, .slice ta ts.length tc]) HX5.out 5 (.slice a5 l5 c5) rfl
          have HUc : Hid _ := HU5.out.same s4
          have HRc : Hid _ := holds_else HR5.out (M := w.heap.size) (by omega) 5 (.slice a5 l5 c5)
          have HBc : Hid (Below F w (w5.setCell ⟨w.heap.size, 5, none⟩ (.slice a5 l5 c5)) ∧ w.heap.size ≤ (w5.setCell ⟨w.heap.size, 5, none⟩ (.slice a5 l5 c5)).heap.size) := ⟨HB5.out.1.setCell (p := ⟨w.heap.size, 5, none⟩) hF _, by have := HB5.out.2; simp; omega⟩
          have HPc : Hid (Plans w (w5.setCell ⟨w.heap.size, 5, none⟩ (.slice a5 l5 c5))) := fun k cur hk => holds_else (HP5.out k cur hk) (by have := (Array.getElem?_eq_some_iff.1 hk).1; omega) 5 _
          clear x0 x1 x2 x3 x4 x5 x6 xf s4 HX5 HR5 HU5 HB5 HP5 HX HR HU1 HB1 HAL
          obtain ⟨x0, x1, x2, x3, x4, x5, x6, xf⟩ := sevenOf z4
          clear z4
          generalize (w5.setCell ⟨w.heap.size, 5, none⟩ (.slice a5 l5 c5)) = w6 at HUc HRc HBc HPc x0 x1 x2 x3 x4 x5 x6 xf ⊢
          have HCM : Hid (comes pol gs ws tick = (gs, ws ++ [tick], [])) := by show comes pol gs ws tick = _; unfold comes; rw [if_neg HA.out, if_neg HBB.out, if_pos HCC.out]
          have hrc := HRc.out
          obtain ⟨q0, q1, q2, q3, q4, q5, q6, qf⟩ := sevenOf hrc
          clear hrc
          go_wp2_with fail
          obtain ⟨k7, s7⟩ := fill7H HRc.out (.slice ra rl rc) (.int .i64 pol) (.int .i64 win) (.int .i64 last) (.slice ga gs.length gc) (.slice a5 l5 c5) (.slice ta ts.length tc)
          obtain ⟨r0, r1, r2, r3, r4, r5, r6, rf⟩ := sevenOf k7
          refine bodyPost_ret (v := .tuple #[.agg #[.slice ra rl rc, .int .i64 pol, .int .i64 win, .int .i64 last, (.slice ga gs.length gc), (.slice a5 l5 c5), (.slice ta ts.length tc)], .slice oa os.length oc]) ?_ rfl ?_
          · simp [results, Tryz.results24, go_sem, r0, r1, r2, r3, r4, r5, r6]
            try rfl
          · rw [HCM.out]
            refine ⟨⟨_, _, _, _, rfl, ?_⟩, below7U HBc.out.1 (by omega) _ _ _ _ _ _ _, fun k cur hk => (set7_else (by have := (Array.getElem?_eq_some_iff.1 hk).1; omega) _ _ _ _ _ _ _).trans (HPc.out k cur hk)⟩
            rw [List.append_nil, List.append_nil, keep_small hn]
            exact HUc.out.same s7
        · have HCC : Hid (¬ (ws.length : Int) < mostW pol) := hC
          have HCM : Hid (comes pol gs ws tick = (gs, ws, [⟨tick, 2⟩])) := by show comes pol gs ws tick = _; unfold comes; rw [if_neg HA.out, if_neg HBB.out, if_neg HCC.out]
          have HUc : Hid _ := HU1.out
          have HRc : Hid _ := HR.out
          have HBc : Hid (Below F w w1 ∧ w.heap.size ≤ w1.heap.size) := ⟨HB1.out.mono hF, by omega⟩
          have HPc : Hid (Plans w w1) := Plans.below HB1.out
          clear HX HR HU1 HB1
          go_wp2_with fail
          refine (HT.out tick 2 _ _ _ _ gs ws _ _ _ HUc.out (Nat.le_trans hF (by have := HBc.out.2; omega)) hn (by omega)).mono ?_
          rintro e w9 ⟨⟨vt9, vo9, rfl, hu9⟩, hb9, hpl9⟩
          obtain ⟨ta9, tl9, tc9, rfl⟩ : ∃ a l c, vt9 = .slice a l c := by obtain ⟨a, c, e⟩ := hu9.told.form; exact ⟨a, _, c, e⟩
          obtain ⟨oa9, ol9, oc9, rfl⟩ : ∃ a l c, vo9 = .slice a l c := by obtain ⟨a, c, e⟩ := hu9.out.form; exact ⟨a, _, c, e⟩
          have hr9 := hpl9 _ _ HRc.out
          have HU9 : Hid _ := hu9
          have HF9 : Hid (Below F w w9 ∧ Plans w w9) := ⟨HBc.out.1.trans hb9, HPc.out.trans hpl9⟩
          have HR9 : Hid _ := hr9
          clear hu9 hb9 hpl9 HUc HRc HBc HPc
          obtain ⟨q0, q1, q2, q3, q4, q5, q6, qf⟩ := sevenOf hr9
          clear hr9
          go_wp2_with fail
          obtain ⟨k7, s7⟩ := fill7H HR9.out (.slice ra rl rc) (.int .i64 pol) (.int .i64 win) (.int .i64 last) (.slice ga gs.length gc) (.slice wa ws.length wc) (.slice ta9 tl9 tc9)
          obtain ⟨r0, r1, r2, r3, r4, r5, r6, rf⟩ := sevenOf k7
          refine bodyPost_ret (v := .tuple #[.agg #[.slice ra rl rc, .int .i64 pol, .int .i64 win, .int .i64 last, (.slice ga gs.length gc), (.slice wa ws.length wc), (.slice ta9 tl9 tc9)], .slice oa9 ol9 oc9]) ?_ rfl ?_
          · simp [results, Tryz.results24, go_sem, r0, r1, r2, r3, r4, r5, r6]
            try rfl
          · rw [HCM.out]
            refine ⟨⟨_, _, _, _, rfl, ?_⟩, below7U HF9.out.1 (by omega) _ _ _ _ _ _ _, fun k cur hk => (set7_else (by have := (Array.getElem?_eq_some_iff.1 hk).1; omega) _ _ _ _ _ _ _).trans (HF9.out.2 k cur hk)⟩
            have h := HU9.out.same s7
            exact h
    · have hA1 : (pol == 5) = false := by simpa using hp5
      clear hp5
      by_cases hB1 : (gs.length : Int) < mostG pol
      · by_cases hB0 : ws.length = 0
        · have hB2 : ((ws.length : Int) == 0) = true := by rw [beq_iff_eq]; omega
          have HBB : Hid ((gs.length : Int) < mostG pol ∧ ws.length = 0) := ⟨hB1, hB0⟩
          clear hB0
          have al : Below w1.heap.size w1 (w1.alloc (.cells #[.int .i64 tick] 3)) := (Below.refl _ _).alloc (Nat.le_refl _) _
          have HAL : Hid _ := al
          clear al
          go_upto_region 8 with (at_builtin; refine Dr.wp_push rfl _ _ rfl F (.slice ga gs.length gc) gs rfl (Und.goes (HU1.out.below HAL.out)) ⟨w1.heap.size, 0, none⟩ 1 tick rfl (by first | (rw [World.cell?_alloc_new]; done) | (rw [World.cell?_alloc_new]; rfl)) (by omega) (by simp; omega) ?_; intro v5 w5 q1 q2 q3 q4; have hpi : PushedI (w1.alloc (.cells #[.int .i64 tick] 3)) F (.slice ga gs.length gc) gs tick v5 w5 := ⟨q1, q2, q3, q4⟩; clear q1 q2 q3 q4; obtain ⟨a5, l5, c5, rfl⟩ : ∃ a l c, v5 = .slice a l c := (by obtain ⟨a, c, e⟩ := hpi.1.form; exact ⟨a, _, c, e⟩); have hpl5 := hpi.plans (Und.goes (HU1.out.below HAL.out)); have hx5 := hpl5 _ _ (Holds.below HX.out HAL.out); have HX5 : Hid _ := hx5; have HR5 : Hid _ := hpl5 _ _ (Holds.below HR.out HAL.out); have HU5 : Hid _ := (HU1.out.below HAL.out).pushG hpi; have HB5 : Hid (Below F w w5 ∧ w1.heap.size ≤ w5.heap.size) := ⟨((HB1.out.mono hF).trans (HAL.out.mono (by omega))).trans hpi.2.1, by have := hpi.2.1.size; simp at this; omega⟩; have HP5 : Hid (Plans w w5) := (Plans.below HB1.out).trans ((Plans.below HAL.out).trans hpl5); clear hpi hpl5 x0 x1 x2 x3 x4 x5 x6 xf; obtain ⟨x0, x1, x2, x3, x4, x5, x6, xf⟩ := sevenOf hx5; clear hx5)
          obtain ⟨z4, s4⟩ := box_set (cur' := #[.slice ra rl rc, .int .i64 pol, .int .i64 win, .int .i64 last, .slice a5 l5 c5, .slice wa ws.length wc, .slice ta ts.length tc]) HX5.out 4 (.slice a5 l5 c5) rfl
          have HUc : Hid _ := HU5.out.same s4
          have HRc : Hid _ := holds_else HR5.out (M := w.heap.size) (by omega) 4 (.slice a5 l5 c5)
          have HBc : Hid (Below F w (w5.setCell ⟨w.heap.size, 4, none⟩ (.slice a5 l5 c5)) ∧ w.heap.size ≤ (w5.setCell ⟨w.heap.size, 4, none⟩ (.slice a5 l5 c5)).heap.size) := ⟨HB5.out.1.setCell (p := ⟨w.heap.size, 4, none⟩) hF _, by have := HB5.out.2; simp; omega⟩
          have HPc : Hid (Plans w (w5.setCell ⟨w.heap.size, 4, none⟩ (.slice a5 l5 c5))) := fun k cur hk => holds_else (HP5.out k cur hk) (by have := (Array.getElem?_eq_some_iff.1 hk).1; omega) 4 _
          clear x0 x1 x2 x3 x4 x5 x6 xf s4 HX5 HR5 HU5 HB5 HP5 HX HR HU1 HB1 HAL
          obtain ⟨x0, x1, x2, x3, x4, x5, x6, xf⟩ := sevenOf z4
          clear z4
          generalize (w5.setCell ⟨w.heap.size, 4, none⟩ (.slice a5 l5 c5)) = w6 at HUc HRc HBc HPc x0 x1 x2 x3 x4 x5 x6 xf ⊢
          have HCM : Hid (comes pol gs ws tick = (gs ++ [tick], ws, [⟨tick, 1⟩])) := by show comes pol gs ws tick = _; unfold comes; rw [if_neg HA.out, if_pos HBB.out]
          go_wp2_with fail
          refine (HT.out tick 1 _ _ _ _ (gs ++ [tick]) ws _ _ _ HUc.out (Nat.le_trans hF (by have := HBc.out.2; omega)) hn (by omega)).mono ?_
          rintro e w9 ⟨⟨vt9, vo9, rfl, hu9⟩, hb9, hpl9⟩
          obtain ⟨ta9, tl9, tc9, rfl⟩ : ∃ a l c, vt9 = .slice a l c := by obtain ⟨a, c, e⟩ := hu9.told.form; exact ⟨a, _, c, e⟩
          obtain ⟨oa9, ol9, oc9, rfl⟩ : ∃ a l c, vo9 = .slice a l c := by obtain ⟨a, c, e⟩ := hu9.out.form; exact ⟨a, _, c, e⟩
          have hr9 := hpl9 _ _ HRc.out
          have HU9 : Hid _ := hu9
          have HF9 : Hid (Below F w w9 ∧ Plans w w9) := ⟨HBc.out.1.trans hb9, HPc.out.trans hpl9⟩
          have HR9 : Hid _ := hr9
          clear hu9 hb9 hpl9 HUc HRc HBc HPc
          obtain ⟨q0, q1, q2, q3, q4, q5, q6, qf⟩ := sevenOf hr9
          clear hr9
          go_wp2_with fail
          obtain ⟨k7, s7⟩ := fill7H HR9.out (.slice ra rl rc) (.int .i64 pol) (.int .i64 win) (.int .i64 last) (.slice a5 l5 c5) (.slice wa ws.length wc) (.slice ta9 tl9 tc9)
          obtain ⟨r0, r1, r2, r3, r4, r5, r6, rf⟩ := sevenOf k7
          refine bodyPost_ret (v := .tuple #[.agg #[.slice ra rl rc, .int .i64 pol, .int .i64 win, .int .i64 last, (.slice a5 l5 c5), (.slice wa ws.length wc), (.slice ta9 tl9 tc9)], .slice oa9 ol9 oc9]) ?_ rfl ?_
          · simp [results, Tryz.results24, go_sem, r0, r1, r2, r3, r4, r5, r6]
            try rfl
          · rw [HCM.out]
            refine ⟨⟨_, _, _, _, rfl, ?_⟩, below7U HF9.out.1 (by omega) _ _ _ _ _ _ _, fun k cur hk => (set7_else (by have := (Array.getElem?_eq_some_iff.1 hk).1; omega) _ _ _ _ _ _ _).trans (HF9.out.2 k cur hk)⟩
            have h := HU9.out.same s7
            exact h
        · have hB2 : ((ws.length : Int) == 0) = false := by rw [beq_eq_false_iff_ne]; omega
          have HBB : Hid (¬ ((gs.length : Int) < mostG pol ∧ ws.length = 0)) := fun h => hB0 h.2
          clear hB0
          by_cases hC : (ws.length : Int) < mostW pol
          · have HCC : Hid ((ws.length : Int) < mostW pol) := hC
            have al : Below w1.heap.size w1 (w1.alloc (.cells #[.int .i64 tick] 3)) := (Below.refl _ _).alloc (Nat.le_refl _) _
            have HAL : Hid _ := al
            clear al
            go_upto_region 11 with (at_builtin; refine Dr.wp_push rfl _ _ rfl F (.slice wa ws.length wc) ws rfl (Und.waits (HU1.out.below HAL.out)) ⟨w1.heap.size, 0, none⟩ 1 tick rfl (by first | (rw [World.cell?_alloc_new]; done) | (rw [World.cell?_alloc_new]; rfl)) (by omega) (by simp; omega) ?_; intro v5 w5 q1 q2 q3 q4; have hpi : PushedI (w1.alloc (.cells #[.int .i64 tick] 3)) F (.slice wa ws.length wc) ws tick v5 w5 := ⟨q1, q2, q3, q4⟩; clear q1 q2 q3 q4; obtain ⟨a5, l5, c5, rfl⟩ : ∃ a l c, v5 = .slice a l c := (by obtain ⟨a, c, e⟩ := hpi.1.form; exact ⟨a, _, c, e⟩); have hpl5 := hpi.plans (Und.waits (HU1.out.below HAL.out)); have hx5 := hpl5 _ _ (Holds.below HX.out HAL.out); have HX5 : Hid _ := hx5; have HR5 : Hid _ := hpl5 _ _ (Holds.below HR.out HAL.out); have HU5 : Hid _ := (HU1.out.below HAL.out).pushW hpi; have HB5 : Hid (Below F w w5 ∧ w1.heap.size ≤ w5.heap.size) := ⟨((HB1.out.mono hF).trans (HAL.out.mono (by omega))).trans hpi.2.1, by have := hpi.2.1.size; simp at this; omega⟩; have HP5 : Hid (Plans w w5) := (Plans.below HB1.out).trans ((Plans.below HAL.out).trans hpl5); clear hpi hpl5 x0 x1 x2 x3 x4 x5 x6 xf; obtain ⟨x0, x1, x2, x3, x4, x5, x6, xf⟩ := sevenOf hx5; clear hx5)
            obtain ⟨z4, s4⟩ := box_set (cur' := #[.slice ra rl rc, .int .i64 pol, .int .i64 win, .int .i64 last, .slice ga gs.length gc, .slice a5 l5 c5, .slice ta ts.length tc]) HX5.out 5 (.slice a5 l5 c5) rfl
            have HUc : Hid _ := HU5.out.same s4
            have HRc : Hid _ := holds_else HR5.out (M := w.heap.size) (by omega) 5 (.slice a5 l5 c5)
            have HBc : Hid (Below F w (w5.setCell ⟨w.heap.size, 5, none⟩ (.slice a5 l5 c5)) ∧ w.heap.size ≤ (w5.setCell ⟨w.heap.size, 5, none⟩ (.slice a5 l5 c5)).heap.size) := ⟨HB5.out.1.setCell (p := ⟨w.heap.size, 5, none⟩) hF _, by have := HB5.out.2; simp; omega⟩
            have HPc : Hid (Plans w (w5.setCell ⟨w.heap.size, 5, none⟩ (.slice a5 l5 c5))) := fun k cur hk => holds_else (HP5.out k cur hk) (by have := (Array.getElem?_eq_some_iff.1 hk).1; omega) 5 _
            clear x0 x1 x2 x3 x4 x5 x6 xf s4 HX5 HR5 HU5 HB5 HP5 HX HR HU1 HB1 HAL
            obtain ⟨x0, x1, x2, x3, x4, x5, x6, xf⟩ := sevenOf z4
            clear z4
            generalize (w5.setCell ⟨w.heap.size, 5, none⟩ (.slice a5 l5 c5)) = w6 at HUc HRc HBc HPc x0 x1 x2 x3 x4 x5 x6 xf ⊢
            have HCM : Hid (comes pol gs ws tick = (gs, ws ++ [tick], [])) := by show comes pol gs ws tick = _; unfold comes; rw [if_neg HA.out, if_neg HBB.out, if_pos HCC.out]
            have hrc := HRc.out
            obtain ⟨q0, q1, q2, q3, q4, q5, q6, qf⟩ := sevenOf hrc
            clear hrc
            go_wp2_with fail
            obtain ⟨k7, s7⟩ := fill7H HRc.out (.slice ra rl rc) (.int .i64 pol) (.int .i64 win) (.int .i64 last) (.slice ga gs.length gc) (.slice a5 l5 c5) (.slice ta ts.length tc)
            obtain ⟨r0, r1, r2, r3, r4, r5, r6, rf⟩ := sevenOf k7
            refine bodyPost_ret (v := .tuple #[.agg #[.slice ra rl rc, .int .i64 pol, .int .i64 win, .int .i64 last, (.slice ga gs.length gc), (.slice a5 l5 c5), (.slice ta ts.length tc)], .slice oa os.length oc]) ?_ rfl ?_
            · simp [results, Tryz.results24, go_sem, r0, r1, r2, r3, r4, r5, r6]
              try rfl
            · rw [HCM.out]
              refine ⟨⟨_, _, _, _, rfl, ?_⟩, below7U HBc.out.1 (by omega) _ _ _ _ _ _ _, fun k cur hk => (set7_else (by have := (Array.getElem?_eq_some_iff.1 hk).1; omega) _ _ _ _ _ _ _).trans (HPc.out k cur hk)⟩
              rw [List.append_nil, List.append_nil, keep_small hn]
              exact HUc.out.same s7
          · have HCC : Hid (¬ (ws.length : Int) < mostW pol) := hC
            have HCM : Hid (comes pol gs ws tick = (gs, ws, [⟨tick, 2⟩])) := by show comes pol gs ws tick = _; unfold comes; rw [if_neg HA.out, if_neg HBB.out, if_neg HCC.out]
            have HUc : Hid _ := HU1.out
            have HRc : Hid _ := HR.out
            have HBc : Hid (Below F w w1 ∧ w.heap.size ≤ w1.heap.size) := ⟨HB1.out.mono hF, by omega⟩
            have HPc : Hid (Plans w w1) := Plans.below HB1.out
            clear HX HR HU1 HB1
            go_wp2_with fail
            refine (HT.out tick 2 _ _ _ _ gs ws _ _ _ HUc.out (Nat.le_trans hF (by have := HBc.out.2; omega)) hn (by omega)).mono ?_
            rintro e w9 ⟨⟨vt9, vo9, rfl, hu9⟩, hb9, hpl9⟩
            obtain ⟨ta9, tl9, tc9, rfl⟩ : ∃ a l c, vt9 = .slice a l c := by obtain ⟨a, c, e⟩ := hu9.told.form; exact ⟨a, _, c, e⟩
            obtain ⟨oa9, ol9, oc9, rfl⟩ : ∃ a l c, vo9 = .slice a l c := by obtain ⟨a, c, e⟩ := hu9.out.form; exact ⟨a, _, c, e⟩
            have hr9 := hpl9 _ _ HRc.out
            have HU9 : Hid _ := hu9
            have HF9 : Hid (Below F w w9 ∧ Plans w w9) := ⟨HBc.out.1.trans hb9, HPc.out.trans hpl9⟩
            have HR9 : Hid _ := hr9
            clear hu9 hb9 hpl9 HUc HRc HBc HPc
            obtain ⟨q0, q1, q2, q3, q4, q5, q6, qf⟩ := sevenOf hr9
            clear hr9
            go_wp2_with fail
            obtain ⟨k7, s7⟩ := fill7H HR9.out (.slice ra rl rc) (.int .i64 pol) (.int .i64 win) (.int .i64 last) (.slice ga gs.length gc) (.slice wa ws.length wc) (.slice ta9 tl9 tc9)
            obtain ⟨r0, r1, r2, r3, r4, r5, r6, rf⟩ := sevenOf k7
            refine bodyPost_ret (v := .tuple #[.agg #[.slice ra rl rc, .int .i64 pol, .int .i64 win, .int .i64 last, (.slice ga gs.length gc), (.slice wa ws.length wc), (.slice ta9 tl9 tc9)], .slice oa9 ol9 oc9]) ?_ rfl ?_
            · simp [results, Tryz.results24, go_sem, r0, r1, r2, r3, r4, r5, r6]
              try rfl
            · rw [HCM.out]
              refine ⟨⟨_, _, _, _, rfl, ?_⟩, below7U HF9.out.1 (by omega) _ _ _ _ _ _ _, fun k cur hk => (set7_else (by have := (Array.getElem?_eq_some_iff.1 hk).1; omega) _ _ _ _ _ _ _).trans (HF9.out.2 k cur hk)⟩
              have h := HU9.out.same s7
              exact h
      · have HBB : Hid (¬ ((gs.length : Int) < mostG pol ∧ ws.length = 0)) := fun h => hB1 h.1
        by_cases hC : (ws.length : Int) < mostW pol
        · have HCC : Hid ((ws.length : Int) < mostW pol) := hC
          have al : Below w1.heap.size w1 (w1.alloc (.cells #[.int .i64 tick] 3)) := (Below.refl _ _).alloc (Nat.le_refl _) _
          have HAL : Hid _ := al
          clear al
          go_upto_region 11 with (at_builtin; refine Dr.wp_push rfl _ _ rfl F (.slice wa ws.length wc) ws rfl (Und.waits (HU1.out.below HAL.out)) ⟨w1.heap.size, 0, none⟩ 1 tick rfl (by first | (rw [World.cell?_alloc_new]; done) | (rw [World.cell?_alloc_new]; rfl)) (by omega) (by simp; omega) ?_; intro v5 w5 q1 q2 q3 q4; have hpi : PushedI (w1.alloc (.cells #[.int .i64 tick] 3)) F (.slice wa ws.length wc) ws tick v5 w5 := ⟨q1, q2, q3, q4⟩; clear q1 q2 q3 q4; obtain ⟨a5, l5, c5, rfl⟩ : ∃ a l c, v5 = .slice a l c := (by obtain ⟨a, c, e⟩ := hpi.1.form; exact ⟨a, _, c, e⟩); have hpl5 := hpi.plans (Und.waits (HU1.out.below HAL.out)); have hx5 := hpl5 _ _ (Holds.below HX.out HAL.out); have HX5 : Hid _ := hx5; have HR5 : Hid _ := hpl5 _ _ (Holds.below HR.out HAL.out); have HU5 : Hid _ := (HU1.out.below HAL.out).pushW hpi; have HB5 : Hid (Below F w w5 ∧ w1.heap.size ≤ w5.heap.size) := ⟨((HB1.out.mono hF).trans (HAL.out.mono (by omega))).trans hpi.2.1, by have := hpi.2.1.size; simp at this; omega⟩; have HP5 : Hid (Plans w w5) := (Plans.below HB1.out).trans ((Plans.below HAL.out).trans hpl5); clear hpi hpl5 x0 x1 x2 x3 x4 x5 x6 xf; obtain ⟨x0, x1, x2, x3, x4, x5, x6, xf⟩ := sevenOf hx5; clear hx5)
          obtain ⟨z4, s4⟩ := box_set (cur' := #[.slice ra rl rc, .int .i64 pol, .int .i64 win, .int .i64 last, .slice ga gs.length gc, .slice a5 l5 c5, .slice ta ts.length tc]) HX5.out 5 (.slice a5 l5 c5) rfl
          have HUc : Hid _ := HU5.out.same s4
          have HRc : Hid _ := holds_else HR5.out (M := w.heap.size) (by omega) 5 (.slice a5 l5 c5)
          have HBc : Hid (Below F w (w5.setCell ⟨w.heap.size, 5, none⟩ (.slice a5 l5 c5)) ∧ w.heap.size ≤ (w5.setCell ⟨w.heap.size, 5, none⟩ (.slice a5 l5 c5)).heap.size) := ⟨HB5.out.1.setCell (p := ⟨w.heap.size, 5, none⟩) hF _, by have := HB5.out.2; simp; omega⟩
          have HPc : Hid (Plans w (w5.setCell ⟨w.heap.size, 5, none⟩ (.slice a5 l5 c5))) := fun k cur hk => holds_else (HP5.out k cur hk) (by have := (Array.getElem?_eq_some_iff.1 hk).1; omega) 5 _
          clear x0 x1 x2 x3 x4 x5 x6 xf s4 HX5 HR5 HU5 HB5 HP5 HX HR HU1 HB1 HAL
          obtain ⟨x0, x1, x2, x3, x4, x5, x6, xf⟩ := sevenOf z4
          clear z4
          generalize (w5.setCell ⟨w.heap.size, 5, none⟩ (.slice a5 l5 c5)) = w6 at HUc HRc HBc HPc x0 x1 x2 x3 x4 x5 x6 xf ⊢
          have HCM : Hid (comes pol gs ws tick = (gs, ws ++ [tick], [])) := by show comes pol gs ws tick = _; unfold comes; rw [if_neg HA.out, if_neg HBB.out, if_pos HCC.out]
          have hrc := HRc.out
          obtain ⟨q0, q1, q2, q3, q4, q5, q6, qf⟩ := sevenOf hrc
          clear hrc
          go_wp2_with fail
          obtain ⟨k7, s7⟩ := fill7H HRc.out (.slice ra rl rc) (.int .i64 pol) (.int .i64 win) (.int .i64 last) (.slice ga gs.length gc) (.slice a5 l5 c5) (.slice ta ts.length tc)
          obtain ⟨r0, r1, r2, r3, r4, r5, r6, rf⟩ := sevenOf k7
          refine bodyPost_ret (v := .tuple #[.agg #[.slice ra rl rc, .int .i64 pol, .int .i64 win, .int .i64 last, (.slice ga gs.length gc), (.slice a5 l5 c5), (.slice ta ts.length tc)], .slice oa os.length oc]) ?_ rfl ?_
          · simp [results, Tryz.results24, go_sem, r0, r1, r2, r3, r4, r5, r6]
            try rfl
          · rw [HCM.out]
            refine ⟨⟨_, _, _, _, rfl, ?_⟩, below7U HBc.out.1 (by omega) _ _ _ _ _ _ _, fun k cur hk => (set7_else (by have := (Array.getElem?_eq_some_iff.1 hk).1; omega) _ _ _ _ _ _ _).trans (HPc.out k cur hk)⟩
            rw [List.append_nil, List.append_nil, keep_small hn]
            exact HUc.out.same s7
        · have HCC : Hid (¬ (ws.length : Int) < mostW pol) := hC
          have HCM : Hid (comes pol gs ws tick = (gs, ws, [⟨tick, 2⟩])) := by show comes pol gs ws tick = _; unfold comes; rw [if_neg HA.out, if_neg HBB.out, if_neg HCC.out]
          have HUc : Hid _ := HU1.out
          have HRc : Hid _ := HR.out
          have HBc : Hid (Below F w w1 ∧ w.heap.size ≤ w1.heap.size) := ⟨HB1.out.mono hF, by omega⟩
          have HPc : Hid (Plans w w1) := Plans.below HB1.out
          clear HX HR HU1 HB1
          go_wp2_with fail
          refine (HT.out tick 2 _ _ _ _ gs ws _ _ _ HUc.out (Nat.le_trans hF (by have := HBc.out.2; omega)) hn (by omega)).mono ?_
          rintro e w9 ⟨⟨vt9, vo9, rfl, hu9⟩, hb9, hpl9⟩
          obtain ⟨ta9, tl9, tc9, rfl⟩ : ∃ a l c, vt9 = .slice a l c := by obtain ⟨a, c, e⟩ := hu9.told.form; exact ⟨a, _, c, e⟩
          obtain ⟨oa9, ol9, oc9, rfl⟩ : ∃ a l c, vo9 = .slice a l c := by obtain ⟨a, c, e⟩ := hu9.out.form; exact ⟨a, _, c, e⟩
          have hr9 := hpl9 _ _ HRc.out
          have HU9 : Hid _ := hu9
          have HF9 : Hid (Below F w w9 ∧ Plans w w9) := ⟨HBc.out.1.trans hb9, HPc.out.trans hpl9⟩
          have HR9 : Hid _ := hr9
          clear hu9 hb9 hpl9 HUc HRc HBc HPc
          obtain ⟨q0, q1, q2, q3, q4, q5, q6, qf⟩ := sevenOf hr9
          clear hr9
          go_wp2_with fail
          obtain ⟨k7, s7⟩ := fill7H HR9.out (.slice ra rl rc) (.int .i64 pol) (.int .i64 win) (.int .i64 last) (.slice ga gs.length gc) (.slice wa ws.length wc) (.slice ta9 tl9 tc9)
          obtain ⟨r0, r1, r2, r3, r4, r5, r6, rf⟩ := sevenOf k7
          refine bodyPost_ret (v := .tuple #[.agg #[.slice ra rl rc, .int .i64 pol, .int .i64 win, .int .i64 last, (.slice ga gs.length gc), (.slice wa ws.length wc), (.slice ta9 tl9 tc9)], .slice oa9 ol9 oc9]) ?_ rfl ?_
          · simp [results, Tryz.results24, go_sem, r0, r1, r2, r3, r4, r5, r6]
            try rfl
          · rw [HCM.out]
            refine ⟨⟨_, _, _, _, rfl, ?_⟩, below7U HF9.out.1 (by omega) _ _ _ _ _ _ _, fun k cur hk => (set7_else (by have := (Array.getElem?_eq_some_iff.1 hk).1; omega) _ _ _ _ _ _ _).trans (HF9.out.2 k cur hk)⟩
            have h := HU9.out.same s7
            exact h
end Pl
end Go.Proofs.YtghocdiddolinaaGreatDoor
