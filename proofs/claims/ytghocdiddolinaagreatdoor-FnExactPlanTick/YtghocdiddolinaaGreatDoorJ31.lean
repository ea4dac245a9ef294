/- The program's own policies. -/
import Derived.Test.YtghocdiddolinaaGreatDoorJ30
import Derived.Test.YtghocdiddolinaaGreatDoorJ29
import Derived.Test.YtghocdiddolinaaGreatDoorJ15
import Derived.Test.YtghocdiddolinaaGreatDoorJ23
namespace Go.Proofs.YtghocdiddolinaaGreatDoor
set_option linter.unusedVariables false
set_option linter.unusedSimpArgs false
open Go.RowKit Go
namespace Pl
open Dr (ButO rowB rowB_own rowB_pos)
section
variable {W W' : World} {F n m : Nat} {S : Nat → Prop} {vr : Value} {pol win last : Int} {vp vg vw vt vo : Value} {gs ws : List Int} {ts os : List Tld}
theorem Pnr.flt (h : Pnr W F S n m vr pol win last vp vg vw vt vo gs ws ts os) : F ≤ W.heap.size := Nat.le_trans h.low.1 (Nat.le_of_lt h.box.lt)
theorem Pnr.boxP (h : Pnr W F S n m vr pol win last vp vg vw vt vo gs ws ts os) (i : Nat) (v : Value) : SameP W (W.setCell ⟨n, i, none⟩ v) := SameP.setBox h.box ⟨neP.2.2.2.2.2.1, neP.2.1, neP.2.2.1⟩ i v
theorem Pnr.pushG {W1 : World} {z : Int} {v' : Value} (h : Pnr W F S n m vr pol win last vp vg vw vt vo gs ws ts os) (hb : Below W.heap.size W W1) (hp : PushedI W1 F vg gs z v' W') : Pnr (W'.setCell ⟨n, 4, none⟩ v') F S n m vr pol win last vp v' vw vt vo (gs ++ [z]) ws ts os ∧ Stays F S W (W'.setCell ⟨n, 4, none⟩ v') := by
  have h1 := h.below hb
  have nb := h1.und.notBox h1.box neP.2.1 neP.2.2.1
  have no := h1.und.notBox h1.out neP.2.2.2.1 neP.2.2.2.2.1
  have hbx := hp.holds h1.box nb.1
  have hn := butO_own hp.1 (by simp)
  have h2 : Own3 W' F v' vw vo (gs ++ [z]) ws os := ⟨hn.1, own_stay h1.own.w fun b e => hp.2.2.1 b (World.ownsRow.lt h1.own.w b e).2 fun e2 => h1.und.ap1 b e2 (nz_row h1.own.w h1.own.nw e), own_stay h1.own.o fun b e => hp.2.2.1 b (World.ownsRow.lt h1.own.o b e).2 fun e2 => own_ne h1.own.o h1.own.g tne.2.2.symm b e (rowB_own e2), hn.2, h1.own.nw, h1.own.no⟩
  refine ⟨⟨hbx.set 4 v', holds_else (hp.holds h1.out no.1) h.ne 4 _, (h1.und.pushG hp).same (SameP.setBox hbx ⟨neP.2.2.2.2.2.1, neP.2.1, neP.2.2.1⟩ 4 v'), h2.same (SameP.setBox hbx ⟨neP.2.2.2.2.2.1, neP.2.1, neP.2.2.1⟩ 4 v'), h.low, h.away, ?_, hp.free h.freeG h1.big, h.freeW, h.freeO⟩, ?_⟩
  · exact fun k hk => by have := h1.big k hk; have := hp.2.1.size; simp; omega
  · exact ((Stays.below hb h.flt h.big).trans (hp.stays h1.und.goes h.freeG h1.big)).set h.low.1 h.away.1 v'
theorem Pnr.pushW {W1 : World} {z : Int} {v' : Value} (h : Pnr W F S n m vr pol win last vp vg vw vt vo gs ws ts os) (hb : Below W.heap.size W W1) (hp : PushedI W1 F vw ws z v' W') : Pnr (W'.setCell ⟨n, 5, none⟩ v') F S n m vr pol win last vp vg v' vt vo gs (ws ++ [z]) ts os ∧ Stays F S W (W'.setCell ⟨n, 5, none⟩ v') := by
  have h1 := h.below hb
  have nb := h1.und.notBox h1.box neP.2.1 neP.2.2.1
  have no := h1.und.notBox h1.out neP.2.2.2.1 neP.2.2.2.2.1
  have hbx := hp.holds h1.box nb.2.1
  have hn := butO_own hp.1 (by simp)
  have h2 : Own3 W' F vg v' vo gs (ws ++ [z]) os := ⟨own_stay h1.own.g fun b e => hp.2.2.1 b (World.ownsRow.lt h1.own.g b e).2 fun e2 => h1.und.ap1 b (nz_row h1.own.g h1.own.ng e) e2, hn.1, own_stay h1.own.o fun b e => hp.2.2.1 b (World.ownsRow.lt h1.own.o b e).2 fun e2 => own_ne h1.own.o h1.own.w tne.2.2.symm b e (rowB_own e2), h1.own.ng, hn.2, h1.own.no⟩
  refine ⟨⟨hbx.set 5 v', holds_else (hp.holds h1.out no.2.1) h.ne 5 _, (h1.und.pushW hp).same (SameP.setBox hbx ⟨neP.2.2.2.2.2.1, neP.2.1, neP.2.2.1⟩ 5 v'), h2.same (SameP.setBox hbx ⟨neP.2.2.2.2.2.1, neP.2.1, neP.2.2.1⟩ 5 v'), h.low, h.away, ?_, h.freeG, hp.free h.freeW h1.big, h.freeO⟩, ?_⟩
  · exact fun k hk => by have := h1.big k hk; have := hp.2.1.size; simp; omega
  · exact ((Stays.below hb h.flt h.big).trans (hp.stays h1.und.waits h.freeW h1.big)).set h.low.1 h.away.1 v'
/-- Nothing goes on. -/
theorem Pnr.clearG (h : Pnr W F S n m vr pol win last vp vg vw vt vo gs ws ts os) : Pnr (W.setCell ⟨n, 4, none⟩ (.slice none 0 0)) F S n m vr pol win last vp (.slice none 0 0) vw vt vo [] ws ts os ∧ Stays F S W (W.setCell ⟨n, 4, none⟩ (.slice none 0 0)) := by
  have hu := h.und.same (h.boxP 4 (.slice none 0 0))
  refine ⟨⟨h.box.set 4 _, holds_else h.out h.ne 4 _, ⟨.inl ⟨rfl, rfl, none, rfl, fun x h => by cases h⟩, hu.waits, hu.told, hu.out, fun b e => by simp [rowB] at e, hu.ap2⟩, ⟨World.ownsRow_nil _ _ _ _, (h.own.same (h.boxP 4 _)).w, (h.own.same (h.boxP 4 _)).o, nz_none, h.own.nw, h.own.no⟩, h.low, h.away, by simpa using h.big, fun b e => by simp [rowB] at e, h.freeW, h.freeO⟩, (Stays.refl _ _ _).set h.low.1 h.away.1 _⟩
/-- The last tick that was looked at. -/
theorem Pnr.setLast (h : Pnr W F S n m vr pol win last vp vg vw vt vo gs ws ts os) (now : Int) : Pnr (W.setCell ⟨n, 3, none⟩ (.int .i64 now)) F S n m vr pol win now vp vg vw vt vo gs ws ts os ∧ Stays F S W (W.setCell ⟨n, 3, none⟩ (.int .i64 now)) := by
  refine ⟨⟨h.box.set 3 _, holds_else h.out h.ne 3 _, h.und.same (h.boxP 3 _), h.own.same (h.boxP 3 _), h.low, h.away, by simpa using h.big, h.freeG, h.freeW, h.freeO⟩, (Stays.refl _ _ _).set h.low.1 h.away.1 _⟩
theorem nineOf {w : World} {N : Nat} {t : TypeId} {v0 v1 v2 v3 v4 v5 v6 v7 v8 : Value} (h : Holds w N t #[v0, v1, v2, v3, v4, v5, v6, v7, v8]) :
    w.cell? ⟨N, 0, none⟩ = some v0 ∧ w.cell? ⟨N, 1, none⟩ = some v1 ∧ w.cell? ⟨N, 2, none⟩ = some v2 ∧ w.cell? ⟨N, 3, none⟩ = some v3 ∧ w.cell? ⟨N, 4, none⟩ = some v4 ∧ w.cell? ⟨N, 5, none⟩ = some v5 ∧ w.cell? ⟨N, 6, none⟩ = some v6 ∧ w.cell? ⟨N, 7, none⟩ = some v7 ∧ w.cell? ⟨N, 8, none⟩ = some v8 ∧ ∀ i, w.frozen? ⟨N, i, none⟩ = false :=
  ⟨by rw [h.cell]; rfl, by rw [h.cell]; rfl, by rw [h.cell]; rfl, by rw [h.cell]; rfl, by rw [h.cell]; rfl, by rw [h.cell]; rfl, by rw [h.cell]; rfl, by rw [h.cell]; rfl, by rw [h.cell]; rfl, fun i => h.frozen i⟩

/-- What a step of the planner leaves. -/
def PnrTo (W : World) (F : Nat) (S : Nat → Prop) (n m : Nat) (vr : Value) (pol win last : Int) (vp vt : Value) (gs ws : List Int) (ts os : List Tld) (e : Ending) (W' : World) : Prop :=
  e = .returned (.tuple #[]) ∧ (∃ vg vw vo, Pnr W' F S n m vr pol win last vp vg vw vt vo gs ws ts os) ∧ Stays F S W W'
theorem tellTo (h : Pnr W F S n m vr pol win last vp vg vw vt vo gs ws ts os) (ho : os.length ≤ 1048576) (tick what : Int) :
    Calls Tryz.prog 53 #[.int .i64 tick, .int .i64 what, .pointer (some ⟨m, 0, none⟩)] W (PnrTo W F S n m vr pol win last vp vt gs ws ts (os ++ [⟨tick, what⟩])) :=
  (tellP h ho tick what).mono fun e W' ⟨he, vo', k1, k2⟩ => ⟨he, ⟨_, _, _, k1⟩, k2⟩
end

set_option maxHeartbeats 1000000 in
theorem isLate {W : World} {F n m : Nat} {S : Nat → Prop} {vr : Value} {pol win last : Int} {vp vg vw vt vo : Value} {gs ws : List Int} {ts os : List Tld} (h : Pnr W F S n m vr pol win last vp vg vw vt vo gs ws ts os) (hl : -1 ≤ last ∧ last ≤ 100000) (tick : Int) (ht : 0 ≤ tick ∧ tick ≤ 100000) :
    Calls Tryz.prog 84 #[.pointer (some ⟨n, 0, none⟩), .int .i64 tick] W fun e W' => e = .returned (.bool (decide (win < last - tick))) ∧ Below W.heap.size W W' := by
  obtain ⟨q0, q1, q2, q3, q4, q5, q6, q7, q8, qf⟩ := nineOf h.box
  clear h q0 q1 q4 q5 q6 q7 q8
  go_enter Tryz.func84, Tryz.ntmps84
  go_wp2
  go_region
  go_wp2
  go_ret
  exact ⟨rfl, (Below.refl _ _).drew⟩

set_option maxHeartbeats 2000000 in
theorem begins {W : World} {F n m : Nat} {S : Nat → Prop} {vr : Value} {pol win last : Int} {vp vg vw vt vo : Value} {gs ws : List Int} {ts os : List Tld} (h : Pnr W F S n m vr pol win last vp vg vw vt vo gs ws ts os) (hg : gs.length ≤ 1048576) (ho : os.length ≤ 1048576) (tick : Int) :
    Calls Tryz.prog 85 #[.pointer (some ⟨n, 0, none⟩), .int .i64 tick] W (PnrTo W F S n m vr pol win last vp vt (gs ++ [tick]) ws ts (os ++ [⟨tick, 1⟩])) := by
  obtain ⟨ga, gc, rfl⟩ := h.und.goes.form
  obtain ⟨q0, q1, q2, q3, q4, q5, q6, q7, q8, qf⟩ := nineOf h.box
  have HP : Hid (Pnr W F S n m vr pol win last vp (.slice ga gs.length gc) vw vt vo gs ws ts os) := h
  have hnl := h.box.lt
  have hFl := h.flt
  clear h q0 q1 q2 q3 q5 q6 q7 q8
  have HA : Hid (Below W.heap.size W (W.alloc (.cells #[.int .i64 tick] 3))) := (Below.refl _ _).alloc (Nat.le_refl _) _
  go_enter Tryz.func85, Tryz.ntmps85
  go_upto_region 1 with (at_builtin; refine Dr.wp_push rfl _ _ rfl F (.slice ga gs.length gc) gs rfl (HP.out.below HA.out).und.goes ⟨W.heap.size, 0, none⟩ 1 tick rfl (by first | (rw [World.cell?_alloc_new]; rfl) | simp) (by omega) (by simp; omega) ?_; intro v1 w1 e1 e2 e3 e4; have hp1 : PushedI _ F (.slice ga gs.length gc) gs tick v1 w1 := ⟨e1, e2, e3, e4⟩; clear e1 e2 e3 e4; have HP1 : Hid (PushedI _ F (.slice ga gs.length gc) gs tick v1 w1) := hp1; have g0 : ∀ i, w1.frozen? ⟨n, i, none⟩ = false := (fun i => (PushedI.holds hp1 (HP.out.below HA.out).box ((HP.out.below HA.out).und.notBox (HP.out.below HA.out).box neP.2.1 neP.2.2.1).1).frozen i); have g1 : w1.cell? ⟨n, 4, none⟩ = some (.slice ga gs.length gc) := (by rw [(PushedI.holds hp1 (HP.out.below HA.out).box ((HP.out.below HA.out).und.notBox (HP.out.below HA.out).box neP.2.1 neP.2.2.1).1).cell]; rfl); obtain ⟨a1, c1, rfl⟩ := Dr.ButO.form hp1.1; clear hp1)
  have hp2 := HP.out.pushG HA.out HP1.out
  simp only [List.length_append, List.length_singleton] at hp2
  have HP2 : Hid _ := hp2
  clear HP1 HA HP hp2
  generalize hW : w1.setCell ⟨n, 4, none⟩ (.slice a1 (gs.length + 1) c1) = w2 at HP2 ⊢
  clear hW g0 g1 w1
  obtain ⟨q0, q1, q2, q3, q4, q5, q6, q7, q8, qf⟩ := nineOf HP2.out.1.box
  unfold tellF at q8
  clear q0 q1 q2 q3 q4 q5 q6 q7
  go_wp2_with (go_at_call 53; refine (tellTo HP2.out.1 ho tick 1).mono ?_; rintro e w3 ⟨rfl, h3, hs3⟩; have HF3 : Hid _ := And.intro h3 hs3; clear h3 hs3)
  go_end0
  exact ⟨rfl, HF3.out.1, HP2.out.2.trans HF3.out.2⟩

theorem roomSkip {W : World} {F n m : Nat} {S : Nat → Prop} {vr : Value} {pol win last : Int} {vp vg vw vt vo : Value} {gs ws : List Int} {ts os : List Tld} (h : Pnr W F S n m vr pol win last vp vg vw vt vo gs ws ts os) :
    Calls Tryz.prog 127 #[.agg #[], .pointer (some ⟨n, 0, none⟩)] W (PnrTo W F S n m vr pol win last vp vt gs ws ts os) := by
  have HP : Hid (Pnr W F S n m vr pol win last vp vg vw vt vo gs ws ts os) := h
  clear h
  go_enter Tryz.func127, Tryz.ntmps127
  go_wp2
  go_end0
  have hb : Below W.heap.size W (W.alloc (.cells #[] 100)) := (Below.refl _ _).alloc (Nat.le_refl _) _
  exact ⟨rfl, ⟨_, _, _, HP.out.below hb⟩, Stays.below hb HP.out.flt HP.out.big⟩

set_option maxRecDepth 4000 in
set_option maxHeartbeats 4000000 in
theorem roomInstead {W : World} {F n m : Nat} {S : Nat → Prop} {vr : Value} {pol win last : Int} {vp vg vw vt vo : Value} {gs ws : List Int} {ts os : List Tld} (h : Pnr W F S n m vr pol win last vp vg vw vt vo gs ws ts os) (hg : gs.length ≤ 8) (hw : Wfs gs) (ho : os.length ≤ 1000000) :
    Calls Tryz.prog 132 #[.agg #[], .pointer (some ⟨n, 0, none⟩)] W (PnrTo W F S n m vr pol win last vp vt [] ws ts (os ++ gs.map fun x => ⟨x, 4⟩)) := by
  have hb0 : Below W.heap.size W (W.alloc (.cells #[] 105)) := (Below.refl _ _).alloc (Nat.le_refl _) _
  have HP0 : Hid (Pnr (W.alloc (.cells #[] 105)) F S n m vr pol win last vp vg vw vt vo gs ws ts os ∧ Stays F S W (W.alloc (.cells #[] 105))) := ⟨h.below hb0, Stays.below hb0 h.flt h.big⟩
  clear hb0 h
  go_enter Tryz.func132, Tryz.ntmps132
  go_upto_region 1 with fail
  generalize hW1 : W.alloc (.cells #[] 105) = w1 at HP0 ⊢
  clear hW1
  obtain ⟨ga, gc, rfl⟩ := HP0.out.1.und.goes.form
  obtain ⟨q0, q1, q2, q3, q4, q5, q6, q7, q8, qf⟩ := nineOf HP0.out.1.box
  have HG : Hid (IsRow .i64 w1 ga gs.length gc gs) := butO_row HP0.out.1.und.goes hw
  have HFR : Hid (∀ b, rowB (.slice ga gs.length gc) = some b → Out S b) := HP0.out.1.freeG
  clear q0 q1 q2 q3 q5 q6 q7
  go_wp2_with fail
  clear q4 q8 qf
  have HLE : Hid (gs.length ≤ 8 ∧ os.length ≤ 1000000) := ⟨hg, ho⟩
  have HWF : Hid (Wfs gs) := hw
  clear hw ho
  go_loopw [12] (fun i wr => ∃ (k : Nat) (vo : Value), k ≤ gs.length ∧ i = .int .i64 k ∧ Pnr wr F S n m vr pol win last vp (.slice ga gs.length gc) vw vt vo gs ws ts (os ++ (gs.take k).map fun x => ⟨x, 4⟩) ∧ Stays F S W wr) (fun i _ => gs.length - (intOf i).toNat)
  case atStart => exact ⟨0, vo, Nat.zero_le _, rfl, by simpa using HP0.out.1, HP0.out.2⟩
  case round =>
    obtain ⟨k, vo1, hk, rfl, hP, hS⟩ := hrel
    have HP : Hid (Pnr wr F S n m vr pol win last vp (.slice ga gs.length gc) vw vt vo1 gs ws ts (os ++ (gs.take k).map fun x => ⟨x, 4⟩) ∧ Stays F S W wr) := ⟨hP, hS⟩
    clear hP hS
    obtain ⟨q0, q1, q2, q3, q4, q5, q6, q7, q8, qf⟩ := nineOf HP.out.1.box
    unfold tellF at q8
    clear q0 q1 q2 q3 q5 q6 q7
    by_cases hlt : k < gs.length
    · obtain ⟨b, off, rfl, h1, hbl, hck⟩ := IsRow.at (butO_row HP.out.1.und.goes HWF.out) hlt
      have HSN : Hid (gs.take (k + 1) = gs.take k ++ [gs[k]]) := List.take_succ_eq_append_getElem hlt
      go_wp2_with (go_at_call 53; refine (tellP HP.out.1 (by have := HLE.out; rw [List.length_append, List.length_map, List.length_take]; omega) gs[k] 4).mono ?_; rintro e w3 ⟨rfl, vo3, h3, hs3⟩; have HF3 : Hid _ := And.intro h3 hs3; clear h3 hs3)
      go_roundw
      case rel => exact ⟨k + 1, vo3, by omega, by go_num, by rw [HSN.out, List.map_append, ← List.append_assoc]; exact HF3.out.1, HP.out.2.trans HF3.out.2⟩
      case measure => simp [intOf]; omega
    · have hkl : k = gs.length := by omega
      subst hkl
      go_wp2_with fail
      go_end0
      have hc := HP.out.1.clearG
      rw [List.take_length] at hc
      exact ⟨rfl, ⟨_, _, _, hc.1⟩, HP.out.2.trans hc.2⟩
end Pl
end Go.Proofs.YtghocdiddolinaaGreatDoor

namespace Go.Proofs.YtghocdiddolinaaGreatDoor
set_option linter.unusedVariables false
set_option linter.unusedSimpArgs false
open Go.RowKit Go
namespace Pl

theorem skipGoes (w : World) : Calls Tryz.prog 128 #[.agg #[]] w fun e w' => e = .returned (.int .i64 1) ∧ Below w.heap.size w w' := by
  go_enter Tryz.func128, Tryz.ntmps128
  go_wp2
  go_ret
  exact ⟨rfl, (Below.refl _ _).alloc (Nat.le_refl _) _⟩
theorem skipWaits (w : World) : Calls Tryz.prog 129 #[.agg #[]] w fun e w' => e = .returned (.int .i64 0) ∧ Below w.heap.size w w' := by
  go_enter Tryz.func129, Tryz.ntmps129
  go_wp2
  go_ret
  exact ⟨rfl, (Below.refl _ _).alloc (Nat.le_refl _) _⟩
theorem bothGoes (w : World) : Calls Tryz.prog 131 #[.agg #[]] w fun e w' => e = .returned (.int .i64 8) ∧ Below w.heap.size w w' := by
  go_enter Tryz.func131, Tryz.ntmps131
  go_wp2
  go_ret
  exact ⟨rfl, (Below.refl _ _).alloc (Nat.le_refl _) _⟩
theorem waitWaits (m : Int) (w : World) : Calls Tryz.prog 130 #[.agg #[.int .i64 m]] w fun e w' => e = .returned (.int .i64 m) ∧ Below w.heap.size w w' := by
  go_enter Tryz.func130, Tryz.ntmps130
  go_wp2
  go_ret
  exact ⟨rfl, (Below.refl _ _).alloc (Nat.le_refl _) _⟩

/-- A method of a policy, asked for a number. -/
def PolM (D : TypeId) (pv : Value) (name : String) (n : Int) : Prop := ∃ f v, (∀ w, (method 294 D pv name).run Tryz.prog w = .ok (f, v) w) ∧ (∀ args w, (callFunc f args).run Tryz.prog w = .ok (.enter f args) w) ∧ ∀ w, Calls Tryz.prog f #[v] w fun e w' => e = .returned (.int .i64 n) ∧ Below w.heap.size w w'
/-- The policy of a number. -/
def PolIs (p : Int) (D : TypeId) (pv : Value) : Prop := PolM D pv "loop.example/dunlin/impl.mostGoes" (mostG p) ∧ PolM D pv "loop.example/dunlin/impl.mostWaits" (mostW p)
theorem same_below {P : Program} {f : FuncId} {args : Array Value} {w : World} {v : Value} (h : Calls P f args w fun e w' => e = .returned v ∧ w' = w) : Calls P f args w fun e w' => e = .returned v ∧ Below w.heap.size w w' := h.mono fun _ _ ⟨he, hw⟩ => ⟨he, by subst hw; exact Below.refl _ _⟩

theorem pol1 : PolIs 1 100 (.agg #[]) :=
  ⟨⟨128, .agg #[], fun w => by kernel_rfl, enters_of Tryz.func128 (by kernel_rfl) rfl, fun w => skipGoes w⟩,
   ⟨129, .agg #[], fun w => by kernel_rfl, enters_of Tryz.func129 (by kernel_rfl) rfl, fun w => skipWaits w⟩⟩
theorem pol2 : PolIs 2 102 (.agg #[.int .i64 1]) :=
  ⟨⟨128, .agg #[], fun w => by kernel_rfl, enters_of Tryz.func128 (by kernel_rfl) rfl, fun w => skipGoes w⟩,
   ⟨130, .agg #[.int .i64 1], fun w => by kernel_rfl, enters_of Tryz.func130 (by kernel_rfl) rfl, fun w => waitWaits 1 w⟩⟩
theorem pol3 : PolIs 3 102 (.agg #[.int .i64 8]) :=
  ⟨⟨128, .agg #[], fun w => by kernel_rfl, enters_of Tryz.func128 (by kernel_rfl) rfl, fun w => skipGoes w⟩,
   ⟨130, .agg #[.int .i64 8], fun w => by kernel_rfl, enters_of Tryz.func130 (by kernel_rfl) rfl, fun w => waitWaits 8 w⟩⟩
theorem pol4 : PolIs 4 104 (.agg #[]) :=
  ⟨⟨131, .agg #[], fun w => by kernel_rfl, enters_of Tryz.func131 (by kernel_rfl) rfl, fun w => bothGoes w⟩,
   ⟨129, .agg #[], fun w => by kernel_rfl, enters_of Tryz.func129 (by kernel_rfl) rfl, fun w => skipWaits w⟩⟩
theorem pol5 : PolIs 5 105 (.agg #[]) :=
  ⟨⟨128, .agg #[], fun w => by kernel_rfl, enters_of Tryz.func128 (by kernel_rfl) rfl, fun w => skipGoes w⟩,
   ⟨129, .agg #[], fun w => by kernel_rfl, enters_of Tryz.func129 (by kernel_rfl) rfl, fun w => skipWaits w⟩⟩

/-- The policy's own value. -/
def polT (p : Int) : TypeId := if p = 1 then 100 else if p = 2 then 102 else if p = 3 then 102 else if p = 4 then 104 else 105
def polV (p : Int) : Value := if p = 2 then .agg #[.int .i64 1] else if p = 3 then .agg #[.int .i64 8] else .agg #[]
theorem pol_is {p : Int} (h : 1 ≤ p ∧ p ≤ 5) : PolIs p (polT p) (polV p) := by
  rcases (by omega : p = 1 ∨ p = 2 ∨ p = 3 ∨ p = 4 ∨ p = 5) with rfl | rfl | rfl | rfl | rfl
  · exact pol1
  · exact pol2
  · exact pol3
  · exact pol4
  · exact pol5

set_option maxHeartbeats 1000000 in
theorem policyOf_yes (p : Int) (h : 1 ≤ p ∧ p ≤ 5) (w : World) : Calls Tryz.prog 51 #[.int .i64 p] w fun e w' => e = .returned (.tuple #[.iface (polT p) (polV p), .bool true]) ∧ Below w.heap.size w w' := by
  have HI : Hid (∀ w, Calls Tryz.prog 67 #[.int .i64 p, .int .i64 1, .int .i64 5] w fun e w' => e = .returned (.bool true) ∧ w' = w) := fun w => isWithin_t p 1 5 h w
  rcases (by omega : p = 1 ∨ p = 2 ∨ p = 3 ∨ p = 4 ∨ p = 5) with rfl | rfl | rfl | rfl | rfl
  all_goals
    go_enter Tryz.func51, Tryz.ntmps51
    go_wp2_with (go_at_call 67; refine (HI.out _).mono ?_; rintro e w1 ⟨rfl, rfl⟩)
    go_ret2
    exact ⟨rfl, (Below.refl _ _).alloc (Nat.le_refl _) _⟩
set_option maxHeartbeats 1000000 in
theorem policyOf_no (p : Int) (h : ¬ (1 ≤ p ∧ p ≤ 5)) (w : World) : Calls Tryz.prog 51 #[.int .i64 p] w fun e w' => e = .returned (.tuple #[.nilIface, .bool false]) ∧ Below w.heap.size w w' := by
  have HI : Hid (∀ w, Calls Tryz.prog 67 #[.int .i64 p, .int .i64 1, .int .i64 5] w fun e w' => e = .returned (.bool false) ∧ w' = w) := fun w => isWithin_f p 1 5 h w
  clear h
  go_enter Tryz.func51, Tryz.ntmps51
  go_wp2_with (go_at_call 67; refine (HI.out _).mono ?_; rintro e w1 ⟨rfl, rfl⟩)
  go_ret2
  exact ⟨rfl, (Below.refl _ _).alloc (Nat.le_refl _) _⟩
end Pl
end Go.Proofs.YtghocdiddolinaaGreatDoor
