/- The program's planner looks, up to a tick that is one. -/
import Derived.Test.YtghocdiddolinaaGreatDoorJ39
import Derived.Test.YtghocdiddolinaaGreatDoorJ29
import Derived.Test.YtghocdiddolinaaGreatDoorJ10
import Derived.Test.YtghocdiddolinaaGreatDoorJ20
namespace Go.Proofs.YtghocdiddolinaaGreatDoor
set_option linter.unusedVariables false
set_option linter.unusedSimpArgs false
open Go.RowKit Go Go.Sort
attribute [local go_sem] Oper.semAt_some
namespace Pl
open Dr (ButO rowB rowB_own rowB_pos)

theorem Pnr.rewin {W : World} {F n m : Nat} {S S' : Nat → Prop} {vr : Value} {pol win last : Int} {vp vg vw vt vo : Value} {gs ws : List Int} {ts os : List Tld} (h : Pnr W F S n m vr pol win last vp vg vw vt vo gs ws ts os) (hb : ∀ k, S' k → k < W.heap.size) (hn : Out S' n ∧ Out S' m) (h1 : ∀ b, rowB vg = some b → Out S' b) (h2 : ∀ b, rowB vw = some b → Out S' b) (h3 : ∀ b, rowB vo = some b → Out S' b) : Pnr W F S' n m vr pol win last vp vg vw vt vo gs ws ts os :=
  ⟨h.box, h.out, h.und, h.own, h.low, hn, hb, h1, h2, h3⟩
/-- What a look leaves. -/
def LookTo (W : World) (F : Nat) (S : Nat → Prop) (n m : Nat) (vr : Value) (pol win last : Int) (vp vt : Value) (gs ws : List Int) (ts os : List Tld) (e : Ending) (W' : World) : Prop :=
  e = .returned (.tuple #[]) ∧ (∃ vg vw vo, Pnr W' F S n m vr pol win last vp vg vw vt vo gs ws ts os) ∧ Below F W W' ∧ Keep S W W'
theorem PnrTo.look {W W' : World} {F n m : Nat} {S : Nat → Prop} {vr : Value} {pol win last : Int} {vp vt : Value} {gs ws : List Int} {ts os : List Tld} {e : Ending} (h : PnrTo W F S n m vr pol win last vp vt gs ws ts os e W') : LookTo W F S n m vr pol win last vp vt gs ws ts os e W' := ⟨h.1, h.2.1, h.2.2.1, h.2.2.2.1⟩
/-- All that are cells stand. -/
def CellsKept (X Y : World) : Prop := X.heap.size ≤ Y.heap.size ∧ ∀ (k : Nat) (c : Array Value) (t : TypeId) (fz : Nat × Nat), X.heap[k]? = some (.cells c t fz) → Y.heap[k]? = some (.cells c t fz)
theorem CellsKept.sameP {X Y : World} (h : CellsKept X Y) : SameP X Y := ⟨h.1, fun k c t fz _ hk => h.2 k c t fz hk⟩
theorem Pnr.cells {X Y : World} {F n m : Nat} {S : Nat → Prop} {vr : Value} {pol win last : Int} {vp vg vw vt vo : Value} {gs ws : List Int} {ts os : List Tld} (h : Pnr X F S n m vr pol win last vp vg vw vt vo gs ws ts os) (hc : CellsKept X Y) : Pnr Y F S n m vr pol win last vp vg vw vt vo gs ws ts os :=
  ⟨hc.2 _ _ _ _ h.box, hc.2 _ _ _ _ h.out, h.und.same hc.sameP, h.own.same hc.sameP, h.low, h.away, fun k hk => Nat.lt_of_lt_of_le (h.big k hk) hc.1, h.freeG, h.freeW, h.freeO⟩
/-- These blocks, and what the look itself makes ahead of its rounds. -/
def Win (S : Nat → Prop) (W w2 : World) : Nat → Prop := fun k => S k ∨ (W.heap.size ≤ k ∧ k < w2.heap.size)
/-- What holds between the rounds. -/
def LookI (W w2 : World) (F : Nat) (S : Nat → Prop) (n m : Nat) (vr : Value) (pol win now : Int) (vt : Value) (gs ws : List Int) (ts os : List Tld) (pre : List Int) (X : World) : Prop :=
  (∀ y ∈ pre, y ≤ now) ∧ (∃ vg vw vo, Pnr X F (Win S W w2) n m vr pol win now (.iface (polT pol) (polV pol)) vg vw vt vo (looksAll pol win now gs ws pre).1 (looksAll pol win now gs ws pre).2.1 ts (os ++ (looksAll pol win now gs ws pre).2.2)) ∧ Below F W X ∧ Keep (Win S W w2) w2 X ∧ w2.heap.size ≤ X.heap.size
section
variable {W w2 X Y : World} {F n m : Nat} {S : Nat → Prop} {vr : Value} {pol win now : Int} {vt : Value} {gs ws : List Int} {ts os : List Tld} {pre : List Int}
theorem LookI.below (h : LookI W w2 F S n m vr pol win now vt gs ws ts os pre X) (_ : w2.heap.size ≤ X.heap.size) (hb : Below X.heap.size X Y) : LookI W w2 F S n m vr pol win now vt gs ws ts os pre Y := by
  obtain ⟨h0, ⟨vg, vw, vo, hP⟩, h1, h2, h3⟩ := h
  exact ⟨h0, ⟨vg, vw, vo, hP.below hb⟩, h1.trans (hb.mono hP.flt), h2.trans (Keep.below hb hP.big), Nat.le_trans h3 hb.size⟩
theorem LookI.grown {row : Option Nat} (h : LookI W w2 F S n m vr pol win now vt gs ws ts os pre X) (hg : X.grownBy Y row) (hr : ∀ r, row = some r → w2.heap.size ≤ r ∧ ∃ o : Obj, X.heap[r]? = some o ∧ o.isCells = false) (hF : F ≤ w2.heap.size) (hS : ∀ k, Win S W w2 k → k < w2.heap.size) : LookI W w2 F S n m vr pol win now vt gs ws ts os pre Y := by
  obtain ⟨h0, ⟨vg, vw, vo, hP⟩, h1, h2, h3⟩ := h
  have hc : CellsKept X Y := ⟨hg.size, fun k c t fz hk => (hg.block k (Array.getElem?_eq_some_iff.1 hk).1 fun e => by
    obtain ⟨_, o, ho, hn⟩ := hr k e.symm
    rw [hk] at ho
    cases ho
    cases hn).trans hk⟩
  exact ⟨h0, ⟨vg, vw, vo, hP.cells hc⟩, h1.trans ((Below.refl _ X).grown hg hP.flt (fun k hk => by have := (hr k hk).1; omega)), fun k k1 => (hg.block k (hP.big k k1) fun e => by have := (hr k e.symm).1; have := hS k k1; omega).trans (h2 k k1), Nat.le_trans h3 hg.size⟩
theorem LookI.own (hF : F ≤ w2.heap.size) (hS : ∀ k, Win S W w2 k → k < w2.heap.size) : OwnFrom w2.heap.size (LookI W w2 F S n m vr pol win now vt gs ws ts os) := fun pre X Y row h hg hr => h.grown hg hr hF hS
theorem LookI.to {tk : List Int} (h : LookI W w2 F S n m vr pol win now vt gs ws ts os pre X) (e : tk = pre) (hK : Keep S W w2) : LookTo W F S n m vr pol win now (.iface (polT pol) (polV pol)) vt (looksAll pol win now gs ws tk).1 (looksAll pol win now gs ws tk).2.1 ts (os ++ (looksAll pol win now gs ws tk).2.2) (.returned (.tuple #[])) X := by
  subst e
  obtain ⟨_, ⟨vg, vw, vo, hP⟩, h1, h2, _⟩ := h
  exact ⟨rfl, ⟨vg, vw, vo, hP.rewin (fun k hk => hP.big k (.inl hk)) ⟨fun h => hP.away.1 (.inl h), fun h => hP.away.2 (.inl h)⟩ (fun b e h => hP.freeG b e (.inl h)) (fun b e h => hP.freeW b e (.inl h)) (fun b e h => hP.freeO b e (.inl h))⟩, h1, fun k hk => (h2 k (.inl hk)).trans (hK k hk)⟩
end
theorem out_low {S : Nat → Prop} {N M1 b : Nat} (h : Out S b) (hb : b < N) : Out (fun k => S k ∨ (N ≤ k ∧ k < M1)) b := fun hk => by
  rcases hk with h1 | h1
  · exact h h1
  · omega
/-- What lay in w0 as rows of numbers is there, whatever the told one's box holds. -/
theorem sees_of {w0 W Y : World} {F m : Nat} {S : Nat → Prop} {oa : Option Addr} {on oc : Nat} (hb0 : Below w0.heap.size w0 W) (hcov : ∀ k, k < w0.heap.size → k < F ∨ k = m ∨ S k) (hm : Holds W m 29 #[.slice oa on oc]) (hF : Below F W Y) (hK : Keep S W Y) : Sees w0 Y := by
  refine ⟨Nat.le_trans hb0.size hF.size, fun a l c zs hz => ?_⟩
  obtain ⟨h1, h2, h3, h4, h5⟩ := hz
  refine ⟨h1, h2, h3, fun hn => ?_, h5⟩
  obtain ⟨b, off, rfl, hb, hc⟩ := h4 hn
  have hbk : Y.heap[b]? = w0.heap[b]? := by
    rcases hcov b hb with h | h | h
    · exact (hF.block b h).trans (hb0.block b hb)
    · exfalso
      subst h
      have h0 := hc 0 hn
      have hw : w0.heap[b]? = some (.cells #[.slice oa on oc] 29 (0, 0)) := (hb0.block b hb).symm.trans hm
      simp only [World.cell?, hw] at h0
      cases off with
      | zero => simp at h0
      | succ k => simp at h0
    · exact (hK b h).trans (hb0.block b hb)
  have hlt : b < Y.heap.size := Nat.lt_of_lt_of_le hb (Nat.le_trans hb0.size hF.size)
  exact ⟨b, off, rfl, hlt, fun j hj => (World.cell?_of_block (a := ⟨b, off + j, none⟩) hbk).trans (hc j hj)⟩
theorem below_two {F : Nat} {W A B : World} (h : Below F W A) (k : Below F W B) (hs : A.heap.size ≤ B.heap.size) : Below F A B := ⟨k.os.trans h.os.symm, k.tape.trans h.tape.symm, k.output.trans h.output.symm, hs, fun i hi => (k.block i hi).trans (h.block i hi).symm⟩
def frameL (N : Nat) (T xs : Nat → Value) : Act := { tmps := #[T 0, T 1, .pointer (some ⟨N, 0, none⟩), .pointer (some ⟨N + 1, 0, none⟩), .pointer (some ⟨N + 1 + 1, 0, none⟩), T 5, T 6, T 7, T 8, T 9, T 10, T 11, T 12, T 13, xs 0, xs 1, xs 2, xs 3, xs 4, xs 5, xs 6, xs 7, T 22, T 23, T 24, T 25, T 26, T 27, T 28], defers := [{ target := .fn (.func 55) #[.pointer (some ⟨N + 1 + 1, 0, none⟩), .pointer (some ⟨N, 0, none⟩)], args := #[] }] }
def OkL (n N : Nat) (vr : Value) (last : Int) : Nat → Value
  | 4 => vr
  | 5 => .pointer (some ⟨N + 1 + 1, 3, none⟩)
  | 6 => .int .i64 last
  | _ => .pointer (some ⟨n, 0, none⟩)
def InvL (w0 w1 : World) (n N : Nat) (vr : Value) (rs : List Rul) (last : Int) (T : Nat → Value) (listed : Array Bool) (act : Act) (W : World) : Prop :=
  ∃ xs, act = frameL N T xs ∧ (∀ j, j < 7 → listed.getD j false = true → xs j = OkL n N vr last j) ∧ Below w1.heap.size w1 W ∧ (listed.getD 7 false = true → ∃ p1 p2 v Mt, xs 7 = .func (.func 95) #[] #[.pointer (some ⟨p1, 0, none⟩), .pointer (some ⟨p2, 0, none⟩)] ∧ w1.heap.size ≤ Mt ∧ Teller w0 W Mt p1 p2 v last (okRules rs))
theorem cellB {w W : World} {p : Addr} {v : Value} (h : w.cell? p = some v) (hb : Below w.heap.size w W) : W.cell? p = some v := (hb.cell (block_lt_of_cell h)).trans h
theorem InvL.val {w0 w1 W : World} {n N : Nat} {vr : Value} {rs : List Rul} {last : Int} {T xs : Nat → Value} {listed : Array Bool} {act : Act} {v : Value} (hX : ∀ j, j < 7 → listed.getD j false = true → xs j = OkL n N vr last j) (hB : Below w1.heap.size w1 W) (hD : listed.getD 7 false = true → ∃ p1 p2 v Mt, xs 7 = .func (.func 95) #[] #[.pointer (some ⟨p1, 0, none⟩), .pointer (some ⟨p2, 0, none⟩)] ∧ w1.heap.size ≤ Mt ∧ Teller w0 W Mt p1 p2 v last (okRules rs)) (i : Nat) (hi : i < 7) (hv : v = OkL n N vr last i) (ha : act = frameL N T (updU xs i v)) : InvL w0 w1 n N vr rs last T (listed.setIfInBounds i true) act W := by
  refine ⟨_, ha, fun j hj hl => ?_, hB, fun hl => ?_⟩
  · by_cases e : j = i
    · subst e; rw [updU_same]; exact hv
    · rw [updU_else xs v e]; exact hX j hj (by rwa [RI.up_else e] at hl)
  · rw [RI.up_else (by omega)] at hl
    rw [updU_else xs v (by omega)]
    exact hD hl

set_option maxRecDepth 100000 in
set_option maxHeartbeats 8000000 in
theorem lookOk {W w0 : World} {F n m : Nat} {S : Nat → Prop} {ra : Option Addr} {rl rc : Nat} {rs : List Rul} {pol win last : Int} {vg vw vt vo : Value} {gs ws : List Int} {ts os : List Tld} (h : Pnr W F S n m (.slice ra rl rc) pol win last (.iface (polT pol) (polV pol)) vg vw vt vo gs ws ts os)
    (hr : IsRuls w0 ra rl rc rs) (hb0 : Below w0.heap.size w0 W) (hcov : ∀ k, k < w0.heap.size → k < F ∨ k = m ∨ S k) (hE : ∀ W', Below F W W' → ErrT W') (hok : calOk rs = true) (hp : 1 ≤ pol ∧ pol ≤ 5) (hfit : FitsIn pol gs ws) (hwg : Wfs gs) (hww : Wfs ws) (hos : os.length ≤ 500000) (hlb : -1 ≤ last ∧ last ≤ 100000)
    (now : Int) (h1 : last < now) (h2 : 0 ≤ now ∧ now ≤ 100000) :
    Calls Tryz.prog 30 #[.pointer (some ⟨n, 0, none⟩), .int .i64 now] W (LookTo W F S n m (.slice ra rl rc) pol win now (.iface (polT pol) (polV pol)) vt (looksAll pol win now gs ws (ticks rs last now)).1 (looksAll pol win now gs ws (ticks rs last now)).2.1 ts (os ++ (looksAll pol win now gs ws (ticks rs last now)).2.2)) := by
  obtain ⟨ga, gc, rfl⟩ := h.und.goes.form
  obtain ⟨wa, wc, rfl⟩ := h.und.waits.form
  obtain ⟨ta, tc, rfl⟩ := h.und.told.form
  obtain ⟨oa, oc, rfl⟩ := h.und.out.form
  obtain ⟨q0, q1, q2, q3, q4, q5, q6, q7, q8, qf⟩ := nineOf h.box
  have hnl := h.box.lt
  have HP : Hid _ := h
  have HO : Hid (Holds W m 29 #[.slice oa os.length oc]) := h.out
  clear h q7 q8
  have HR0 : Hid (IsRuls w0 ra rl rc rs ∧ Below w0.heap.size w0 W ∧ ∀ k, k < w0.heap.size → k < F ∨ k = m ∨ S k) := ⟨hr, hb0, hcov⟩
  have HE : Hid (∀ W', Below F W W' → ErrT W') := hE
  have HC : Hid (calOk rs = true ∧ (1 ≤ pol ∧ pol ≤ 5) ∧ FitsIn pol gs ws ∧ Wfs gs ∧ Wfs ws ∧ os.length ≤ 500000 ∧ (-1 ≤ last ∧ last ≤ 100000) ∧ last < now ∧ (0 ≤ now ∧ now ≤ 100000)) := ⟨hok, hp, hfit, hwg, hww, hos, hlb, h1, h2⟩
  clear hr hb0 hcov hE hok hp hfit hwg hww hos hlb h1 h2
  have hmf : ∀ (fn : Fn) (first cap : Array Value) (w : World), (Instr.makeFunc fn first cap).run Tryz.prog w = .ok (.func fn first cap) w := fun _ _ _ _ => rfl
  refine (callsIn_wide (n := 6)).1 ?_
  refine callsIn_of_wp_marks Tryz.func30 rfl trivial ?_ rfl
  simp only [Tryz.ntmps30, List.size_toArray, List.length_cons, List.length_nil, Nat.reduceAdd, Nat.reduceSub, Array.replicate_succ, Array.replicate_zero, List.push_toArray, List.append_toArray, List.nil_append, List.cons_append]
  have HBX : Hid _ := boxes3 W 54 3 31 #[.pointer (some ⟨n, 0, none⟩)] #[.int .i64 now] #[.slice ra rl rc, .int .i64 pol, .int .i64 win, .int .i64 last, .slice ga gs.length gc, .slice wa ws.length wc, .slice ta ts.length tc]
  gi_wp2_with fail
  have hwin : Pnr (((W.alloc (.cells #[.pointer (some ⟨n, 0, none⟩)] 54)).alloc (.cells #[.int .i64 now] 3)).alloc (.cells #[.slice ra rl rc, .int .i64 pol, .int .i64 win, .int .i64 last, .slice ga gs.length gc, .slice wa ws.length wc, .slice ta ts.length tc] 31)) F (fun k => S k ∨ (W.heap.size ≤ k ∧ k < W.heap.size + 1 + 1 + 1)) n m (.slice ra rl rc) pol win last (.iface (polT pol) (polV pol)) (.slice ga gs.length gc) (.slice wa ws.length wc) (.slice ta ts.length tc) (.slice oa os.length oc) gs ws ts os :=
    (HP.out.below HBX.out.2.2.2.1).rewin (fun k hk => hk.elim (fun h => by have := HBX.out.2.2.2.2; have := HP.out.big k h; omega) (fun h => by have := HBX.out.2.2.2.2; omega)) ⟨out_low HP.out.away.1 HP.out.box.lt, out_low HP.out.away.2 HP.out.out.lt⟩ (fun b e => out_low (HP.out.freeG b e) (HP.out.und.goes.block e).2.1) (fun b e => out_low (HP.out.freeW b e) (HP.out.und.waits.block e).2.1) (fun b e => out_low (HP.out.freeO b e) (HP.out.und.out.block e).2.1)
  have HSB : Hid (Stays F S W _) := Stays.below HBX.out.2.2.2.1 HP.out.flt HP.out.big
  refine ⟨trivial, callsIn_wide.2 ((passOk hwin now HC.out.2.2.2.2.2.2.2.1 HC.out.2.2.2.2.2.2.2.2).mono ?_)⟩
  rintro e w1 ⟨rfl, hP1, hS1⟩
  have HP1 : Hid (Pnr w1 F (fun k => S k ∨ (W.heap.size ≤ k ∧ k < W.heap.size + 1 + 1 + 1)) n m (.slice ra rl rc) pol win now (.iface (polT pol) (polV pol)) (.slice ga gs.length gc) (.slice wa ws.length wc) (.slice ta ts.length tc) (.slice oa os.length oc) gs ws ts os) := hP1
  have hkp : ∀ k, W.heap.size ≤ k → k < W.heap.size + 1 + 1 + 1 → w1.heap[k]? = _ := fun k h1 h2 => hS1.2.1 k (.inr ⟨h1, h2⟩)
  have HB1 : Hid (Holds w1 W.heap.size 54 #[.pointer (some ⟨n, 0, none⟩)] ∧ Holds w1 (W.heap.size + 1) 3 #[.int .i64 now] ∧ Holds w1 (W.heap.size + 1 + 1) 31 #[.slice ra rl rc, .int .i64 pol, .int .i64 win, .int .i64 last, .slice ga gs.length gc, .slice wa ws.length wc, .slice ta ts.length tc]) :=
    ⟨(hkp _ (Nat.le_refl _) (by omega)).trans HBX.out.1, (hkp _ (by omega) (by omega)).trans HBX.out.2.1, (hkp _ (by omega) (by omega)).trans HBX.out.2.2.1⟩
  have HF1 : Hid (Below F W w1) := HSB.out.1.trans hS1.1
  have HSZ : Hid (W.heap.size + 1 + 1 + 1 ≤ w1.heap.size) := HP1.out.big (W.heap.size + 1 + 1) (.inr ⟨by omega, by omega⟩)
  have HKS : Hid (Keep S W w1) := HSB.out.2.1.trans fun k hk => hS1.2.1 k (.inl hk)
  clear hwin hP1 hS1 hkp HBX HSB q0 q1 q2 q3 q4 q5 q6 qf
  obtain ⟨q0, q1, q2, q3, q4, q5, q6, q7, q8, qf⟩ := nineOf HP1.out.box
  clear q1 q2 q3 q4 q5 q6 q7 q8
  have c0 : w1.cell? ⟨W.heap.size, 0, none⟩ = some (.pointer (some ⟨n, 0, none⟩)) := by rw [HB1.out.1.cell]; rfl
  have c3 : w1.cell? ⟨W.heap.size + 1 + 1, 3, none⟩ = some (.int .i64 last) := by rw [HB1.out.2.2.cell]; rfl
  have HBW : Hid (Below w0.heap.size W w1) := ⟨HF1.out.os, HF1.out.tape, HF1.out.output, HF1.out.size, fun k hk => by
    rcases HR0.out.2.2 k hk with h | h | h
    · exact HF1.out.block k h
    · subst h; exact Eq.trans (show w1.heap[k]? = _ from HP1.out.out) (Eq.symm HP.out.out)
    · exact HKS.out k h⟩
  have HDUE : Hid (∀ X, Below w1.heap.size w1 X → Calls Tryz.prog 57 #[.slice ra rl rc, .int .i64 last] X (DuePost w0 X last rs)) := fun X hX => dueAbove w0 ra rl rc rs last X HR0.out.1 (HR0.out.2.1.trans ((HBW.out).trans (hX.mono (by have := HSZ.out; have := HR0.out.2.1.size; omega)))) (HE.out X (HF1.out.trans (hX.mono (by have := HSZ.out; have := HP.out.flt; omega))))
  gi_wp2_with fail
  refine wpIn_wide.2 ?_
  refine wp_frameU _ (frameL W.heap.size) (fun _ => undef) (by kernel_rfl) fun T => ?_
  refine RI.wp_region_inv2 (by kernel_rfl) (by kernel_rfl) (InvL w0 w1 n W.heap.size (.slice ra rl rc) rs last T) ⟨_, rfl, fun j _ h => by (rw [RI.up_new] at h; cases h), (Below.refl _ _).drew, fun h => by (rw [RI.up_new] at h; cases h)⟩ (fun i o listed act W' hi hs hl haft hcl hinv => ?_) (fun listed act W' hs hall hinv => ?_)
  case refine_1 =>
    obtain ⟨xs, rfl, hX, hB, hD⟩ := hinv
    have hi8 : i < 8 := (Array.getElem?_eq_some_iff.1 hi).1
    have d0 := cellB c0 hB
    have d3 := cellB c3 hB
    have dq := cellB q0 hB
    rcases (show i = 0 ∨ i = 1 ∨ i = 2 ∨ i = 3 ∨ i = 4 ∨ i = 5 ∨ i = 6 ∨ i = 7 by omega) with rfl | rfl | rfl | rfl | rfl | rfl | rfl | rfl
    · have ho' := Option.some.inj hi
      subst ho'
      exact RI.op_val (d := some 14) (v := .pointer (some ⟨n, 0, none⟩)) hi (by kernel_rfl) rfl (by simp [go_sem, frameL, d0]) (InvL.val hX hB hD 0 (by omega) rfl (by kernel_rfl))
    · have ho' := Option.some.inj hi
      subst ho'
      have e0 := hX 0 (by omega) (RI.dep haft 0 (by kernel_rfl))
      exact RI.op_val (d := some 15) (v := .pointer (some ⟨n, 0, none⟩)) hi (by kernel_rfl) rfl (by simp [go_sem, frameL, e0, OkL]) (InvL.val hX hB hD 1 (by omega) rfl (by kernel_rfl))
    · have ho' := Option.some.inj hi
      subst ho'
      have e0 := hX 1 (by omega) (RI.dep haft 1 (by kernel_rfl))
      exact RI.op_val (d := some 16) (v := .pointer (some ⟨n, 0, none⟩)) hi (by kernel_rfl) rfl (by simp [go_sem, frameL, e0, OkL]) (InvL.val hX hB hD 2 (by omega) rfl (by kernel_rfl))
    · have ho' := Option.some.inj hi
      subst ho'
      have e0 := hX 2 (by omega) (RI.dep haft 2 (by kernel_rfl))
      exact RI.op_val (d := some 17) (v := .pointer (some ⟨n, 0, none⟩)) hi (by kernel_rfl) rfl (by simp [go_sem, frameL, e0, OkL]) (InvL.val hX hB hD 3 (by omega) rfl (by kernel_rfl))
    · have ho' := Option.some.inj hi
      subst ho'
      have e0 := hX 3 (by omega) (RI.dep haft 3 (by kernel_rfl))
      exact RI.op_val (d := some 18) (v := .slice ra rl rc) hi (by kernel_rfl) rfl (by simp [go_sem, frameL, e0, OkL, dq]) (InvL.val hX hB hD 4 (by omega) rfl (by kernel_rfl))
    · have ho' := Option.some.inj hi
      subst ho'
      exact RI.op_val (d := some 19) (v := .pointer (some ⟨W.heap.size + 1 + 1, 3, none⟩)) hi (by kernel_rfl) rfl (by simp [go_sem, frameL]) (InvL.val hX hB hD 5 (by omega) rfl (by kernel_rfl))
    · have ho' := Option.some.inj hi
      subst ho'
      have e0 := hX 5 (by omega) (RI.dep haft 5 (by kernel_rfl))
      exact RI.op_val (d := some 20) (v := .int .i64 last) hi (by kernel_rfl) rfl (by simp [go_sem, frameL, e0, OkL, d3]) (InvL.val hX hB hD 6 (by omega) rfl (by kernel_rfl))
    · have ho' := Option.some.inj hi
      subst ho'
      have e4 := hX 4 (by omega) (RI.dep haft 4 (by kernel_rfl))
      have e6 := hX 6 (by omega) (RI.dep haft 6 (by kernel_rfl))
      refine RI.op_one hi (by kernel_rfl) fun KK hKK => ?_
      refine wp_callTwo (HDUE.out W' hB) (fun e w' hr => ?_) (enters_of Tryz.func57 (by kernel_rfl) rfl) _ _ _ (d := some 21) rfl rfl ((show _ = xs 4 by kernel_rfl).trans e4) ((show _ = xs 6 by kernel_rfl).trans e6) ?_
      · obtain ⟨_, p1, p2, v, e, _⟩ := hr
        exact ⟨_, e⟩
      · intro r w' hr
        obtain ⟨hb, p1, p2, v, e, hT⟩ := hr
        injection e with e
        subst e
        exact hKK _ _ ⟨updU xs 7 (.func (.func 95) #[] #[.pointer (some ⟨p1, 0, none⟩), .pointer (some ⟨p2, 0, none⟩)]), by kernel_rfl, fun j hj hl => by rw [updU_else xs _ (by omega)]; exact hX j hj (by rwa [RI.up_else (by omega)] at hl), bcall hB hB.size hb, fun _ => ⟨p1, p2, v, W'.heap.size, by rw [updU_same], hB.size, hT⟩⟩
  case refine_2 =>
    obtain ⟨xs, rfl, hX, hB, hD⟩ := hinv
    obtain ⟨p1, p2, v, Mt, e7, hMt, hT⟩ := hD (by have := hall 7 (by decide); simpa [Array.getD, hs] using this)
    have HT : Hid (Teller w0 W' Mt p1 p2 v last (okRules rs) ∧ W.heap.size ≤ Mt) := ⟨hT, by have := HSZ.out; omega⟩
    have HP2 : Hid (Pnr W' F (Win S W W') n m (.slice ra rl rc) pol win now (.iface (polT pol) (polV pol)) (.slice ga gs.length gc) (.slice wa ws.length wc) (.slice ta ts.length tc) (.slice oa os.length oc) gs ws ts os) := (HP1.out.below hB).rewin (fun k hk => hk.elim (fun h => by have := HP.out.big k h; have := HSZ.out; have := hB.size; omega) (fun h => h.2)) ⟨out_low HP.out.away.1 HP.out.box.lt, out_low HP.out.away.2 HP.out.out.lt⟩ (fun b e => out_low (HP.out.freeG b e) (HP.out.und.goes.block e).2.1) (fun b e => out_low (HP.out.freeW b e) (HP.out.und.waits.block e).2.1) (fun b e => out_low (HP.out.freeO b e) (HP.out.und.out.block e).2.1)
    have HB2 : Hid (Holds W' W.heap.size 54 #[.pointer (some ⟨n, 0, none⟩)] ∧ Holds W' (W.heap.size + 1) 3 #[.int .i64 now]) := ⟨HB1.out.1.below hB, HB1.out.2.1.below hB⟩
    have HF2 : Hid (Below F W W') := HF1.out.trans (hB.mono (by have := HSZ.out; have := HP.out.flt; omega))
    have HS2 : Hid (W.heap.size + 1 + 1 + 1 ≤ W'.heap.size) := Nat.le_trans HSZ.out hB.size
    have HK2 : Hid (Keep S W W') := HKS.out.trans (Keep.below hB (fun k hk => by have := HP.out.big k hk; have := HSZ.out; omega))
    have HWI : Hid (∀ k, Win S W W' k → k < W'.heap.size) := HP2.out.big
    clear hT hMt hB hX hall hs HDUE HBW HKS HP1 HB1 HF1 HSZ q0 qf c0 c3
    simp only [frameL, e7]
    clear e7
    gi_wp2_with fail
    refine range_own rfl (by omega) (gf := 95) (lb := #[.pointer (some ⟨p1, 0, none⟩), .pointer (some ⟨p2, 0, none⟩)]) rfl trivial (enters_of Tryz.func95 (by kernel_rfl) rfl)
      (merged1 w0 Mt p1 p2 v last rs (by have := HC.out.2.2.2.2.2.2.1; omega) _ (by omega))
      (fun X hb => HT.out.1.keep (HT.out.1.1.below hb) (KeptUp.below hb))
      (fun f g h => g (f h)) (fun X l r r' hl hlp h => Teller.loop h (by have := HT.out.1.1.size; omega) hlp) (fun A B hd k o hk _ _ => (hd.block k (Array.getElem?_eq_some_iff.1 hk).1).trans hk) (fun _ => rfl)
      (LookI W W' F S n m (.slice ra rl rc) pol win now (.slice ta ts.length tc) gs ws ts os)
      (fun c X => c = .exit 0 ∧ ∃ pre, ticks rs last now = pre ∧ LookI W W' F S n m (.slice ra rl rc) pol win now (.slice ta ts.length tc) gs ws ts os pre X)
      ?hI ?hIx ?hId ?hIxd ?h0
      (fun x => { tmps := #[T 0, T 1, .pointer (some ⟨W.heap.size, 0, none⟩), .pointer (some ⟨W.heap.size + 1, 0, none⟩), .pointer (some ⟨W.heap.size + 1 + 1, 0, none⟩), .int .i64 x, T 6, T 7, T 8, T 9, T 10, T 11, T 12, T 13, xs 0, xs 1, xs 2, xs 3, xs 4, xs 5, xs 6, .func (.func 95) #[] #[.pointer (some ⟨p1, 0, none⟩), .pointer (some ⟨p2, 0, none⟩)], .int .i64 x, T 23, T 24, T 25, T 26, T 27, T 28], defers := [] }) ?assign ?body ?done ?stop
    case hI => exact LookI.own HP2.out.flt HWI.out
    case hIx => exact fun c => fun _ X Y row ⟨h0, pre, h1, h2⟩ hg hr => ⟨h0, pre, h1, LookI.own HP2.out.flt HWI.out pre X Y row h2 hg hr⟩
    case hId => exact fun pre X Y hX h hd => h.below hX hd
    case hIxd => exact fun c X Y hX ⟨h0, pre, h1, h2⟩ hd => ⟨h0, pre, h1, h2.below hX hd⟩
    case h0 => exact ⟨(fun y h => nomatch h), ⟨_, _, _, by simp only [looksAll, List.append_nil]; exact HP2.out⟩, HF2.out, Keep.refl _ _, Nat.le_refl _⟩
    case assign =>
      intro l x X K hK
      gi_wp2
      exact hK
    case body =>
      rintro l pre x X hl hI hpre
      obtain ⟨hle, ⟨vg, vw, vo', hP⟩, hF, hK, hsx⟩ := hI
      obtain ⟨r, hr⟩ := hpre
      have hxm : x ∈ dueL rs 100002 last := by rw [← hr]; simp
      have hxb := dueL_bd 100002 last x hxm
      have hpl := pre_len (pre := pre ++ [x]) hr.symm
      rw [List.length_append, List.length_singleton] at hpl
      have k0 : X.cell? ⟨W.heap.size, 0, none⟩ = some (.pointer (some ⟨n, 0, none⟩)) := by
        rw [World.cell?_of_block (hK W.heap.size (.inr ⟨Nat.le_refl _, by have := HS2.out; omega⟩)), HB2.out.1.cell]; rfl
      have k1 : X.cell? ⟨W.heap.size + 1, 0, none⟩ = some (.int .i64 now) := by
        rw [World.cell?_of_block (hK (W.heap.size + 1) (.inr ⟨by omega, by have := HS2.out; omega⟩)), HB2.out.2.cell]; rfl
      have HI : Hid (LookI W W' F S n m (.slice ra rl rc) pol win now (.slice ta ts.length tc) gs ws ts os pre X) := ⟨hle, ⟨vg, vw, vo', hP⟩, hF, hK, hsx⟩
      by_cases hx : now < x
      · have hti : ticks rs last now = pre := by
          unfold ticks
          rw [← hr, List.append_assoc]
          exact takeWhile_pre hle fun y s e => by
            rw [List.singleton_append] at e
            injection e with e1 e2
            omega
        have HTI : Hid (ticks rs last now = pre) := hti
        clear hti hr hP hF hK hle hpl hxb hxm
        gi_wp2_with fail
        exact ⟨KeepsFrom.refl _ _, rfl, pre, HTI.out, HI.out⟩
      · have hfit := looksAll_fits (pol := pol) (win := win) (now := now) HC.out.2.1 pre HC.out.2.2.1
        have hwf := looksAll_wf (pol := pol) (win := win) (now := now) pre HC.out.2.2.2.1 HC.out.2.2.2.2.1 (fun z hz => wf_tick (by have := dueL_bd 100002 last z (by rw [← hr]; simp [hz]); omega))
        have hlen := looksAll_len pol win now pre gs ws
        have hsn := looksAll_snoc pol win now pre gs ws x
        have hLI : looksI pol win now (looksAll pol win now gs ws pre).1 (looksAll pol win now gs ws pre).2.1 x = looks pol win now (looksAll pol win now gs ws pre).1 (looksAll pol win now gs ws pre).2.1 x := by
          unfold looksI looks
          split
          · rfl
          · exact comesI_eq hfit x
        have hmG := mostG_bd pol
        have hmW := mostW_bd pol
        have hCO := come HC.out.2.1 hP (by have := HC.out.2.2.2.2.2.2.2; omega) x hxb (by have := hfit.1; omega) (by have := hfit.2; omega) hwf.1 (by rw [List.length_append]; have := HC.out.2.2.2.2.2.1; omega)
        rw [hLI] at hCO
        have HCO : Hid _ := hCO
        have HSN : Hid _ := hsn
        have HLE : Hid (∀ y ∈ pre ++ [x], y ≤ now) := fun y hy => by
          rcases List.mem_append.1 hy with h | h
          · exact hle y h
          · rw [List.mem_singleton.1 h]; omega
        clear hCO hsn hLI hlen hwf hfit hmG hmW hr hP hF hK hle hpl hxb hxm
        gi_wp2_with fail
        refine ⟨trivial, (callsIn_wide.2 HCO.out).mono ?_⟩
        rintro e Y ⟨rfl, ⟨vg2, vw2, vo2, hP2⟩, hS2⟩
        have HJ : Hid (LookI W W' F S n m (.slice ra rl rc) pol win now (.slice ta ts.length tc) gs ws ts os (pre ++ [x]) Y) := ⟨HLE.out, ⟨vg2, vw2, vo2, by rw [HSN.out]; rw [List.append_assoc] at hP2; exact hP2⟩, HI.out.2.2.1.trans hS2.1, HI.out.2.2.2.1.trans hS2.2.1, Nat.le_trans HI.out.2.2.2.2 hS2.1.size⟩
        have HKF : Hid (KeepsFrom W'.heap.size X Y) := hS2.2.2.from _
        clear hP2 hS2 HCO HSN HLE
        gi_wp2_with fail
        exact ⟨HKF.out, fun _ => HT.out.1.keep (sees_of HR0.out.2.1 HR0.out.2.2 HO.out HJ.out.2.2.1 (fun k hk => (HJ.out.2.2.2.1 k (.inl hk)).trans (HK2.out k hk))) (fun k c t fz hk hb => (HJ.out.2.2.2.1 k (.inr ⟨by have := HT.out.2; omega, (Array.getElem?_eq_some_iff.1 hb).1⟩)).trans hb), HJ.out⟩
    case done =>
      rintro D X hD hI hDef
      have hti : ticks rs last now = dueL rs 100002 last := by
        have h := takeWhile_pre (pre := dueL rs 100002 last) (r := []) hI.1 (fun y s e => nomatch e)
        rw [List.append_nil] at h
        exact h
      have hz := ((hI.grown (grownBy_putObj' X D (.deferred none)) (fun r e => by cases e; exact ⟨hD, _, hDef, rfl⟩) HP2.out.flt HWI.out))
      have HZ : Hid (LookTo W F S n m (.slice ra rl rc) pol win now (.iface (polT pol) (polV pol)) (.slice ta ts.length tc) (looksAll pol win now gs ws (ticks rs last now)).1 (looksAll pol win now gs ws (ticks rs last now)).2.1 ts (os ++ (looksAll pol win now gs ws (ticks rs last now)).2.2) (.returned (.tuple #[])) ((X.putObj D (.deferred none)).alloc (.cells #[] 87))) := (hz.below hz.2.2.2.2 (al_below _ _)).to hti HK2.out
      clear hz hI hti
      gi_wp2_with fail
      refine ⟨by simp, .inl ⟨_, _, rfl, run_takeDeferred hDef, ?_⟩⟩
      refine ⟨by simp, .inr ⟨fun _ => by omega, _, _, 55, #[.pointer (some ⟨W.heap.size + 1 + 1, 0, none⟩), .pointer (some ⟨W.heap.size, 0, none⟩)], rfl, by simp [go_sem], fun _ _ => trivial, ?_⟩⟩
      refine (catchIdle _ _ _).mono ?_
      rintro e u' w3 ⟨rfl, rfl, rfl⟩
      refine ⟨.tuple #[], ?_, HZ.out⟩
      simp [results, Tryz.results30, go_sem]
    case stop =>
      rintro D c X hD ⟨rfl, pre, hti, hI⟩ hDef
      have hz := ((hI.grown (grownBy_putObj' X D (.deferred none)) (fun r e => by cases e; exact ⟨hD, _, hDef, rfl⟩) HP2.out.flt HWI.out))
      have HZ : Hid (LookTo W F S n m (.slice ra rl rc) pol win now (.iface (polT pol) (polV pol)) (.slice ta ts.length tc) (looksAll pol win now gs ws (ticks rs last now)).1 (looksAll pol win now gs ws (ticks rs last now)).2.1 ts (os ++ (looksAll pol win now gs ws (ticks rs last now)).2.2) (.returned (.tuple #[])) ((X.putObj D (.deferred none)).alloc (.cells #[] 87))) := (hz.below hz.2.2.2.2 (al_below _ _)).to hti HK2.out
      clear hz hI hti
      gi_wp2_with fail
      refine ⟨by simp, .inl ⟨_, _, rfl, run_takeDeferred hDef, ?_⟩⟩
      refine ⟨by simp, .inr ⟨fun _ => by omega, _, _, 55, #[.pointer (some ⟨W.heap.size + 1 + 1, 0, none⟩), .pointer (some ⟨W.heap.size, 0, none⟩)], rfl, by simp [go_sem], fun _ _ => trivial, ?_⟩⟩
      refine (catchIdle _ _ _).mono ?_
      rintro e u' w3 ⟨rfl, rfl, rfl⟩
      refine ⟨.tuple #[], ?_, HZ.out⟩
      simp [results, Tryz.results30, go_sem]
end Pl
end Go.Proofs.YtghocdiddolinaaGreatDoor
