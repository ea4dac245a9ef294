/- The program's planner: a time comes. -/
import Derived.Test.YtghocdiddolinaaGreatDoorJ31
import Derived.Lib.QuietBelow
import Derived.BigQuiet
namespace Go.Proofs.YtghocdiddolinaaGreatDoor
set_option linter.unusedVariables false
set_option linter.unusedSimpArgs false
open Go.RowKit Go Go.Sort
namespace Pl
open Dr (ButO rowB rowB_own rowB_pos)

def roomG (pol : Int) (gs : List Int) : List Int := if pol = 5 then [] else gs
def roomT (pol : Int) (gs : List Int) : List Tld := if pol = 5 then gs.map fun x => ⟨x, 4⟩ else []
/-- A policy makes room. -/
def PolR (pol : Int) (D : TypeId) (pv : Value) : Prop := ∃ f v, (∀ w, (method 294 D pv "loop.example/dunlin/impl.makeRoom").run Tryz.prog w = .ok (f, v) w) ∧ (∀ args w, (callFunc f args).run Tryz.prog w = .ok (.enter f args) w) ∧
  ∀ (W : World) (F : Nat) (S : Nat → Prop) (n m : Nat) (vr : Value) (win last : Int) (vp vg vw vt vo : Value) (gs ws : List Int) (ts os : List Tld), Pnr W F S n m vr pol win last vp vg vw vt vo gs ws ts os → gs.length ≤ 8 → Wfs gs → os.length ≤ 1000000 →
    Calls Tryz.prog f #[v, .pointer (some ⟨n, 0, none⟩)] W (PnrTo W F S n m vr pol win last vp vt (roomG pol gs) ws ts (os ++ roomT pol gs))
theorem polR_skip {pol : Int} {D : TypeId} {pv : Value} (h5 : pol ≠ 5) (hm : ∀ w, (method 294 D pv "loop.example/dunlin/impl.makeRoom").run Tryz.prog w = .ok (127, .agg #[]) w) : PolR pol D pv :=
  ⟨_, _, hm, enters_of Tryz.func127 (by kernel_rfl) rfl, fun W F S n m vr win last vp vg vw vt vo gs ws ts os h _ _ _ => by
    unfold roomG roomT
    rw [if_neg h5, if_neg h5, List.append_nil]
    exact roomSkip h⟩
theorem polR {pol : Int} (h : 1 ≤ pol ∧ pol ≤ 5) : PolR pol (polT pol) (polV pol) := by
  rcases (by omega : pol = 1 ∨ pol = 2 ∨ pol = 3 ∨ pol = 4 ∨ pol = 5) with rfl | rfl | rfl | rfl | rfl
  · exact polR_skip (by decide) fun w => by kernel_rfl
  · exact polR_skip (by decide) fun w => by kernel_rfl
  · exact polR_skip (by decide) fun w => by kernel_rfl
  · exact polR_skip (by decide) fun w => by kernel_rfl
  · refine ⟨132, .agg #[], fun w => by kernel_rfl, enters_of Tryz.func132 (by kernel_rfl) rfl, fun W F S n m vr win last vp vg vw vt vo gs ws ts os h h1 h2 h3 => ?_⟩
    unfold roomG roomT
    rw [if_pos rfl, if_pos rfl]
    exact roomInstead h h1 h2 h3

/-- A time that is looked at, the program's way. -/
def looksI (pol win last : Int) (gs ws : List Int) (t : Int) : List Int × List Int × List Tld :=
  if win < last - t then (gs, ws, [⟨t, 3⟩]) else comesI pol gs ws t

set_option maxRecDepth 4000 in
set_option maxHeartbeats 4000000 in
theorem come {W : World} {F n m : Nat} {S : Nat → Prop} {vr : Value} {pol win last : Int} {vg vw vt vo : Value} {gs ws : List Int} {ts os : List Tld} (hp : 1 ≤ pol ∧ pol ≤ 5) (h : Pnr W F S n m vr pol win last (.iface (polT pol) (polV pol)) vg vw vt vo gs ws ts os) (hl : -1 ≤ last ∧ last ≤ 100000) (tick : Int) (ht : 0 ≤ tick ∧ tick ≤ 100000) (hg : gs.length ≤ 8) (hw : ws.length ≤ 8) (hwf : Wfs gs) (ho : os.length ≤ 900000) :
    Calls Tryz.prog 58 #[.pointer (some ⟨n, 0, none⟩), .int .i64 tick] W (PnrTo W F S n m vr pol win last (.iface (polT pol) (polV pol)) vt (looksI pol win last gs ws tick).1 (looksI pol win last gs ws tick).2.1 ts (os ++ (looksI pol win last gs ws tick).2.2)) := by
  obtain ⟨⟨fG, uG, mG, eG, kG⟩, ⟨fW, uW, mW, eW, kW⟩⟩ := pol_is hp
  obtain ⟨fR, uR, mR, eR, kR⟩ := polR hp
  obtain ⟨hg0, hg8⟩ := mostG_bd pol
  obtain ⟨hw0, hw8⟩ := mostW_bd pol
  have HL : Hid (-1 ≤ last ∧ last ≤ 100000) := hl
  have HT : Hid (0 ≤ tick ∧ tick ≤ 100000) := ht
  have HN : Hid (gs.length ≤ 8 ∧ ws.length ≤ 8 ∧ Wfs gs ∧ os.length ≤ 900000) := ⟨hg, hw, hwf, ho⟩
  have HLI : Hid (∀ x, looksI pol win last gs ws tick = x ↔ looksI pol win last gs ws tick = x) := fun _ => Iff.rfl
  clear hp hl ht hg hw hwf ho HLI
  generalize polT pol = D at h mG mW mR ⊢
  generalize polV pol = pv at h mG mW mR ⊢
  have HP : Hid (Pnr W F S n m vr pol win last (.iface D pv) vg vw vt vo gs ws ts os) := h
  have KG : Hid _ := kG
  have KW : Hid _ := kW
  have KR : Hid _ := kR
  clear h kG kW kR
  go_enter Tryz.func58, Tryz.ntmps58
  go_wp2_with fail
  refine (isLate HP.out HL.out tick HT.out).mono ?_
  rintro e w1 ⟨rfl, hb1⟩
  have HP1 : Hid (Pnr w1 F S n m vr pol win last (.iface D pv) vg vw vt vo gs ws ts os ∧ Stays F S W w1) := ⟨HP.out.below hb1, Stays.below hb1 HP.out.flt HP.out.big⟩
  clear hb1 HP
  obtain ⟨q0, q1, q2, q3, q4, q5, q6, q7, q8, qf⟩ := nineOf HP1.out.1.box
  unfold tellF at q8
  clear q0 q1 q2 q3 q4 q5 q6
  by_cases hlate : win < last - tick
  · have HX : Hid (looksI pol win last gs ws tick = (gs, ws, [⟨tick, 3⟩])) := if_pos hlate
    rw [decide_eq_true hlate]
    clear mG mW mR eG eW eR q7
    go_wp2_with (go_at_call 53; refine (tellTo HP1.out.1 (by have := HN.out.2.2.2; omega) tick 3).mono ?_; rintro e w3 ⟨rfl, h3, hs3⟩; have HF3 : Hid _ := And.intro h3 hs3; clear h3 hs3)
    go_end0
    rw [HX.out]
    exact ⟨rfl, HF3.out.1, HP1.out.2.trans HF3.out.2⟩
  · have HX : Hid (looksI pol win last gs ws tick = comesI pol gs ws tick) := if_neg hlate
    rw [decide_eq_false hlate]
    clear q8
    go_wp2_with fail
    refine (KR.out _ _ _ _ _ _ _ _ _ _ _ _ _ _ _ _ _ HP1.out.1 HN.out.1 HN.out.2.2.1 (by have := HN.out.2.2.2; omega)).mono ?_
    rintro e w2 ⟨rfl, ⟨vg2, vw2, vo2, h2⟩, hs2⟩
    have hG8 : (roomG pol gs).length ≤ 8 := by have := HN.out.1; unfold roomG; split <;> simp; omega
    have hT8 : (roomT pol gs).length ≤ 8 := by have := HN.out.1; unfold roomT; split <;> simp; omega
    have HCI : Hid (comesI pol gs ws tick = (if ((roomG pol gs).length : Int) < mostG pol ∧ ws.length = 0 then (roomG pol gs ++ [tick], ws, roomT pol gs ++ [⟨tick, 1⟩])
      else if (ws.length : Int) < mostW pol then (roomG pol gs, ws ++ [tick], roomT pol gs)
      else (roomG pol gs, ws, roomT pol gs ++ [⟨tick, 2⟩]))) := rfl
    generalize roomG pol gs = G at h2 hG8 HCI
    generalize roomT pol gs = T at h2 hT8 HCI
    have HS2 : Hid (Stays F S W w2) := HP1.out.2.trans hs2
    have HN2 : Hid (G.length ≤ 8 ∧ T.length ≤ 8) := ⟨hG8, hT8⟩
    clear hs2 KR mR eR q7 qf HP1 hG8 hT8
    obtain ⟨ga, gc, rfl⟩ := h2.und.goes.form
    obtain ⟨wa, wc, rfl⟩ := h2.und.waits.form
    have HP2 : Hid _ := h2
    obtain ⟨q0, q1, q2, q3, q4, q5, q6, q7, q8, qf⟩ := nineOf h2.box
    clear h2 q0 q1 q2 q3 q6 q8
    have k4 := cell_regrown q4
    have k5 := cell_regrown q5
    have k7 := cell_regrown q7
    have CG := fun d os => Calls.regrown_of (KG.out (grow (redrawn w2 d) os))
    by_cases hA : (G.length : Int) < mostG pol
    · by_cases hB : ws.length = 0
      · have hB' : (ws.length : Int) = 0 := by omega
        go_wp2_with fail
        refine wp_region_quiet_below (by kernel_rfl) (by kernel_rfl) ?_
        repeat (first | (quiet_step (exact CG _ _)) | go_big_quiet_skip)
        refine wpQuiet_nil ?_
        rintro _ ⟨⟨dq, osq⟩, rfl⟩
        have HP3 : Hid (Pnr (grow (redrawn w2 dq) osq) F S n m vr pol win last (.iface D pv) (.slice ga G.length gc) (.slice wa ws.length wc) vt vo2 G ws ts (os ++ T) ∧ Stays F S W (grow (redrawn w2 dq) osq)) := ⟨HP2.out.below (below_regrown w2 dq osq), HS2.out.trans (Stays.below (below_regrown w2 dq osq) HP2.out.flt HP2.out.big)⟩
        clear k4 k5 k7 CG q4 q5 q7 qf
        generalize grow (redrawn w2 dq) osq = w3 at HP3 ⊢
        have HX2 : Hid (looksI pol win last gs ws tick = (G ++ [tick], ws, T ++ [⟨tick, 1⟩])) := HX.out.trans (HCI.out.trans (if_pos ⟨hA, hB⟩))
        go_wp2_with fail
        refine (begins HP3.out.1 (by have := HN2.out; omega) (by have := HN2.out; have := HN.out.2.2.2; rw [List.length_append]; omega) tick).mono ?_
        rintro e w4 ⟨rfl, h4, hs4⟩
        have HF4 : Hid _ := And.intro h4 hs4
        clear h4 hs4
        go_wp2_with fail
        go_end0
        rw [HX2.out]
        rw [List.append_assoc] at HF4
        exact ⟨rfl, HF4.out.1, HP3.out.2.trans HF4.out.2⟩
      · have hB' : ¬ (ws.length : Int) = 0 := by omega
        have hAB : ¬ ((G.length : Int) < mostG pol ∧ ws.length = 0) := fun h => hB h.2
        go_wp2_with fail
        refine wp_region_quiet_below (by kernel_rfl) (by kernel_rfl) ?_
        repeat (first | (quiet_step (exact CG _ _)) | go_big_quiet_skip)
        refine wpQuiet_nil ?_
        rintro _ ⟨⟨dq, osq⟩, rfl⟩
        have HP3 : Hid (Pnr (grow (redrawn w2 dq) osq) F S n m vr pol win last (.iface D pv) (.slice ga G.length gc) (.slice wa ws.length wc) vt vo2 G ws ts (os ++ T) ∧ Stays F S W (grow (redrawn w2 dq) osq)) := ⟨HP2.out.below (below_regrown w2 dq osq), HS2.out.trans (Stays.below (below_regrown w2 dq osq) HP2.out.flt HP2.out.big)⟩
        clear k4 k5 k7 CG q4 q5 q7 qf
        generalize grow (redrawn w2 dq) osq = w3 at HP3 ⊢
        obtain ⟨q0, q1, q2, q3, q4, q5, q6, q7, q8, qf⟩ := nineOf HP3.out.1.box
        have k5 := cell_regrown q5
        have k7 := cell_regrown q7
        have CW := fun d os => Calls.regrown_of (KW.out (grow (redrawn w3 d) os))
        clear q0 q1 q2 q3 q4 q6 q8
        by_cases hC : (ws.length : Int) < mostW pol
        · have HX2 : Hid (looksI pol win last gs ws tick = (G, ws ++ [tick], T)) := HX.out.trans (HCI.out.trans ((if_neg hAB).trans (if_pos hC)))
          go_wp2_with fail
          refine wp_region_quiet_below (by kernel_rfl) (by kernel_rfl) ?_
          repeat (quiet_step (exact CW _ _))
          refine wpQuiet_nil ?_
          rintro _ ⟨⟨dq, osq⟩, rfl⟩
          have HP4 : Hid (Pnr (grow (redrawn w3 dq) osq) F S n m vr pol win last (.iface D pv) (.slice ga G.length gc) (.slice wa ws.length wc) vt vo2 G ws ts (os ++ T) ∧ Stays F S W (grow (redrawn w3 dq) osq)) := ⟨HP3.out.1.below (below_regrown w3 dq osq), HP3.out.2.trans (Stays.below (below_regrown w3 dq osq) HP3.out.1.flt HP3.out.1.big)⟩
          clear k5 k7 CW q5 q7 qf HP3
          generalize grow (redrawn w3 dq) osq = w4 at HP4 ⊢
          obtain ⟨q0, q1, q2, q3, q4, q5, q6, q7, q8, qf⟩ := nineOf HP4.out.1.box
          have hnl := HP4.out.1.box.lt
          have hFl := HP4.out.1.flt
          clear q0 q1 q2 q3 q4 q6 q7 q8
          have HA : Hid (Below w4.heap.size w4 (w4.alloc (.cells #[.int .i64 tick] 3))) := (Below.refl _ _).alloc (Nat.le_refl _) _
          go_wp2_with (at_builtin; refine Dr.wp_push rfl _ _ rfl F (.slice wa ws.length wc) ws rfl (HP4.out.1.below HA.out).und.waits ⟨w4.heap.size, 0, none⟩ 1 tick rfl (by first | (rw [World.cell?_alloc_new]; rfl) | simp) (by have := HN.out.2.1; omega) (by simp; omega) ?_; intro v5 w5 e1 e2 e3 e4; have hp5 : PushedI _ F (.slice wa ws.length wc) ws tick v5 w5 := ⟨e1, e2, e3, e4⟩; clear e1 e2 e3 e4; have HP5 : Hid (PushedI _ F (.slice wa ws.length wc) ws tick v5 w5) := hp5; have g0 : ∀ i, w5.frozen? ⟨n, i, none⟩ = false := (fun i => (PushedI.holds hp5 (HP4.out.1.below HA.out).box ((HP4.out.1.below HA.out).und.notBox (HP4.out.1.below HA.out).box neP.2.1 neP.2.2.1).2.1).frozen i); have g1 : w5.cell? ⟨n, 5, none⟩ = some (.slice wa ws.length wc) := (by rw [(PushedI.holds hp5 (HP4.out.1.below HA.out).box ((HP4.out.1.below HA.out).und.notBox (HP4.out.1.below HA.out).box neP.2.1 neP.2.2.1).2.1).cell]; rfl); obtain ⟨a5, c5, rfl⟩ := Dr.ButO.form hp5.1; clear hp5)
          go_end0
          have hq := HP4.out.1.pushW HA.out HP5.out
          simp only [List.length_append, List.length_singleton] at hq
          rw [HX2.out]
          exact ⟨rfl, ⟨_, _, _, hq.1⟩, HP4.out.2.trans hq.2⟩
        · have HX2 : Hid (looksI pol win last gs ws tick = (G, ws, T ++ [⟨tick, 2⟩])) := HX.out.trans (HCI.out.trans ((if_neg hAB).trans (if_neg hC)))
          go_wp2_with fail
          refine wp_region_quiet_below (by kernel_rfl) (by kernel_rfl) ?_
          repeat (quiet_step (exact CW _ _))
          refine wpQuiet_nil ?_
          rintro _ ⟨⟨dq, osq⟩, rfl⟩
          have HP4 : Hid (Pnr (grow (redrawn w3 dq) osq) F S n m vr pol win last (.iface D pv) (.slice ga G.length gc) (.slice wa ws.length wc) vt vo2 G ws ts (os ++ T) ∧ Stays F S W (grow (redrawn w3 dq) osq)) := ⟨HP3.out.1.below (below_regrown w3 dq osq), HP3.out.2.trans (Stays.below (below_regrown w3 dq osq) HP3.out.1.flt HP3.out.1.big)⟩
          clear k5 k7 CW q5 q7 qf HP3
          generalize grow (redrawn w3 dq) osq = w4 at HP4 ⊢
          obtain ⟨q0, q1, q2, q3, q4, q5, q6, q7, q8, qf⟩ := nineOf HP4.out.1.box
          unfold tellF at q8
          clear q0 q1 q2 q3 q4 q5 q6 q7
          go_wp2_with (go_at_call 53; refine (tellTo HP4.out.1 (by have := HN2.out; have := HN.out.2.2.2; rw [List.length_append]; omega) tick 2).mono ?_; rintro e w5 ⟨rfl, h5, hs5⟩; have HF5 : Hid _ := And.intro h5 hs5; clear h5 hs5)
          go_end0
          rw [HX2.out]
          rw [List.append_assoc] at HF5
          exact ⟨rfl, HF5.out.1, HP4.out.2.trans HF5.out.2⟩
    · have hAB : ¬ ((G.length : Int) < mostG pol ∧ ws.length = 0) := fun h => hA h.1
      have hAf : decide ((G.length : Int) < mostG pol) = false := decide_eq_false hA
      have HAB : Hid _ := hAB
      clear hAB hA
      go_wp2_with fail
      refine wp_region_quiet_below (by kernel_rfl) (by kernel_rfl) ?_
      repeat (first | (quiet_step (exact CG _ _)) | go_big_quiet_skip)
      refine wpQuiet_nil ?_
      rintro _ ⟨⟨dq, osq⟩, rfl⟩
      have HP3 : Hid (Pnr (grow (redrawn w2 dq) osq) F S n m vr pol win last (.iface D pv) (.slice ga G.length gc) (.slice wa ws.length wc) vt vo2 G ws ts (os ++ T) ∧ Stays F S W (grow (redrawn w2 dq) osq)) := ⟨HP2.out.below (below_regrown w2 dq osq), HS2.out.trans (Stays.below (below_regrown w2 dq osq) HP2.out.flt HP2.out.big)⟩
      clear k4 k5 k7 CG q4 q5 q7 qf
      generalize grow (redrawn w2 dq) osq = w3 at HP3 ⊢
      obtain ⟨q0, q1, q2, q3, q4, q5, q6, q7, q8, qf⟩ := nineOf HP3.out.1.box
      have k5 := cell_regrown q5
      have k7 := cell_regrown q7
      have CW := fun d os => Calls.regrown_of (KW.out (grow (redrawn w3 d) os))
      clear q0 q1 q2 q3 q4 q6 q8
      by_cases hC : (ws.length : Int) < mostW pol
      · have HX2 : Hid (looksI pol win last gs ws tick = (G, ws ++ [tick], T)) := HX.out.trans (HCI.out.trans ((if_neg HAB.out).trans (if_pos hC)))
        go_wp2_with fail
        refine wp_region_quiet_below (by kernel_rfl) (by kernel_rfl) ?_
        repeat (quiet_step (exact CW _ _))
        refine wpQuiet_nil ?_
        rintro _ ⟨⟨dq, osq⟩, rfl⟩
        have HP4 : Hid (Pnr (grow (redrawn w3 dq) osq) F S n m vr pol win last (.iface D pv) (.slice ga G.length gc) (.slice wa ws.length wc) vt vo2 G ws ts (os ++ T) ∧ Stays F S W (grow (redrawn w3 dq) osq)) := ⟨HP3.out.1.below (below_regrown w3 dq osq), HP3.out.2.trans (Stays.below (below_regrown w3 dq osq) HP3.out.1.flt HP3.out.1.big)⟩
        clear k5 k7 CW q5 q7 qf HP3
        generalize grow (redrawn w3 dq) osq = w4 at HP4 ⊢
        obtain ⟨q0, q1, q2, q3, q4, q5, q6, q7, q8, qf⟩ := nineOf HP4.out.1.box
        have hnl := HP4.out.1.box.lt
        have hFl := HP4.out.1.flt
        clear q0 q1 q2 q3 q4 q6 q7 q8
        have HA : Hid (Below w4.heap.size w4 (w4.alloc (.cells #[.int .i64 tick] 3))) := (Below.refl _ _).alloc (Nat.le_refl _) _
        go_wp2_with (at_builtin; refine Dr.wp_push rfl _ _ rfl F (.slice wa ws.length wc) ws rfl (HP4.out.1.below HA.out).und.waits ⟨w4.heap.size, 0, none⟩ 1 tick rfl (by first | (rw [World.cell?_alloc_new]; rfl) | simp) (by have := HN.out.2.1; omega) (by simp; omega) ?_; intro v5 w5 e1 e2 e3 e4; have hp5 : PushedI _ F (.slice wa ws.length wc) ws tick v5 w5 := ⟨e1, e2, e3, e4⟩; clear e1 e2 e3 e4; have HP5 : Hid (PushedI _ F (.slice wa ws.length wc) ws tick v5 w5) := hp5; have g0 : ∀ i, w5.frozen? ⟨n, i, none⟩ = false := (fun i => (PushedI.holds hp5 (HP4.out.1.below HA.out).box ((HP4.out.1.below HA.out).und.notBox (HP4.out.1.below HA.out).box neP.2.1 neP.2.2.1).2.1).frozen i); have g1 : w5.cell? ⟨n, 5, none⟩ = some (.slice wa ws.length wc) := (by rw [(PushedI.holds hp5 (HP4.out.1.below HA.out).box ((HP4.out.1.below HA.out).und.notBox (HP4.out.1.below HA.out).box neP.2.1 neP.2.2.1).2.1).cell]; rfl); obtain ⟨a5, c5, rfl⟩ := Dr.ButO.form hp5.1; clear hp5)
        go_end0
        have hq := HP4.out.1.pushW HA.out HP5.out
        simp only [List.length_append, List.length_singleton] at hq
        rw [HX2.out]
        exact ⟨rfl, ⟨_, _, _, hq.1⟩, HP4.out.2.trans hq.2⟩
      · have HX2 : Hid (looksI pol win last gs ws tick = (G, ws, T ++ [⟨tick, 2⟩])) := HX.out.trans (HCI.out.trans ((if_neg HAB.out).trans (if_neg hC)))
        go_wp2_with fail
        refine wp_region_quiet_below (by kernel_rfl) (by kernel_rfl) ?_
        repeat (quiet_step (exact CW _ _))
        refine wpQuiet_nil ?_
        rintro _ ⟨⟨dq, osq⟩, rfl⟩
        have HP4 : Hid (Pnr (grow (redrawn w3 dq) osq) F S n m vr pol win last (.iface D pv) (.slice ga G.length gc) (.slice wa ws.length wc) vt vo2 G ws ts (os ++ T) ∧ Stays F S W (grow (redrawn w3 dq) osq)) := ⟨HP3.out.1.below (below_regrown w3 dq osq), HP3.out.2.trans (Stays.below (below_regrown w3 dq osq) HP3.out.1.flt HP3.out.1.big)⟩
        clear k5 k7 CW q5 q7 qf HP3
        generalize grow (redrawn w3 dq) osq = w4 at HP4 ⊢
        obtain ⟨q0, q1, q2, q3, q4, q5, q6, q7, q8, qf⟩ := nineOf HP4.out.1.box
        unfold tellF at q8
        clear q0 q1 q2 q3 q4 q5 q6 q7
        go_wp2_with (go_at_call 53; refine (tellTo HP4.out.1 (by have := HN2.out; have := HN.out.2.2.2; rw [List.length_append]; omega) tick 2).mono ?_; rintro e w5 ⟨rfl, h5, hs5⟩; have HF5 : Hid _ := And.intro h5 hs5; clear h5 hs5)
        go_end0
        rw [HX2.out]
        rw [List.append_assoc] at HF5
        exact ⟨rfl, HF5.out.1, HP4.out.2.trans HF5.out.2⟩
end Pl
end Go.Proofs.YtghocdiddolinaaGreatDoor
