/- The program's own PlanBoard. -/
import Derived.Test.YtnieaeakaajleaaGreatDoorJ21
import Derived.Test.YtnieaeakaajleaaGreatDoorJ25
import Derived.Test.YtnieaeakaajleaaGreatDoorJ28
namespace Go.Proofs.YtnieaeakaajleaaGreatDoor
set_option linter.unusedVariables false
set_option linter.unusedSimpArgs false
open Go.RowKit Go
namespace Pl

theorem times_fit' {p : Pla} (h : PlanOk p) {l : List Int} (ht : times p.rs p.last l = true) (i : Nat) (hi : i < l.length) : Fits (l.getD i 0) := by
  obtain ⟨h1, h2, _⟩ := times_iff.1 ht i hi
  have := due_bd (rs := p.rs) (u := l.getD i 0) (by unfold calDue; rw [h.rules, h2]; rfl)
  exact ⟨by omega, by omega⟩
theorem upd_two {xs : Nat → Value} {i j : Nat} {u v : Value} (h1 : xs i = u) (h2 : xs j = v) : xs = upd (upd xs i u) j v := by
  funext k; unfold upd; split
  · subst_vars; rfl
  · split
    · subst_vars; rfl
    · rfl
theorem upd_three {xs : Nat → Value} {i j l : Nat} {u v x : Value} (h1 : xs i = u) (h2 : xs j = v) (h3 : xs l = x) : xs = upd (upd (upd xs i u) j v) l x := by
  rw [← upd_two h1 h2]
  funext k; unfold upd; split
  · subst_vars; rfl
  · rfl
theorem wf_tick {z : Int} (h : -1 ≤ z ∧ z ≤ 100000) : (Lit.int .i64 z).wf = true := by
  have e1 : IntKind.i64.min = -9223372036854775808 := by decide
  have e2 : IntKind.i64.max = 9223372036854775807 := by decide
  simp only [Lit.wf, e1, e2, Bool.and_eq_true, decide_eq_true_eq]; omega
theorem own_form {W : World} {base : Nat} {e : TypeId} {size : Nat} {v : Value} {n : Nat} {xs : List Value} (h : W.ownsRow base e size v n xs) : ∃ a c, v = .slice a n c := by
  rcases h.2 with ⟨rfl, hn⟩ | ⟨g, cap, cur, rfl, _⟩
  · exact ⟨none, 0, by rw [hn]⟩
  · exact ⟨_, _, rfl⟩
theorem toldR_app (a b : List Tld) : toldR (a ++ b) = toldR a ++ toldR b := by simp [toldR]
theorem rep_none (n j : Nat) (h : (Array.replicate n false).getD j false = true) : False := by
  have : (Array.replicate n false).getD j false = false := by unfold Array.getD; split <;> simp
  rw [this] at h; cases h

set_option maxRecDepth 4000 in
set_option maxHeartbeats 4000000 in
theorem implPlanBoard (ra : Option Addr) (rl rc : Nat) (ga : Option Addr) (gl gc : Nat) (wa : Option Addr) (wl wk : Nat) (ta : Option Addr) (tl tc : Nat) (p : Pla) (w : World) (hp : IsPla w ra rl rc ga gl gc wa wl wk ta tl tc p) (hg : ErrT w) (ht : Tab w) :
    Calls Tryz.prog 19 #[.agg #[.slice ra rl rc, .int .i64 p.pol, .int .i64 p.win, .int .i64 p.last, .slice ga gl gc, .slice wa wl wk, .slice ta tl tc]] w fun e w' => e = .returned (.string (boardB p)) ∧ Below w.heap.size w w' := by
  have hrl := (IsRecs.len hp.1).1
  obtain ⟨hgl, hgm⟩ := hp.2.1.len
  obtain ⟨hwl, hwm⟩ := hp.2.2.1.len
  obtain ⟨htl, htm⟩ := IsRecs.len hp.2.2.2
  unfold maxLen at hgm hwm htm
  have HP : Hid _ := hp
  have HE : Hid (ErrT w) := hg
  have HT : Hid (Tab w) := ht
  clear hp hg ht
  have HK : Hid (∀ w', Below w.heap.size w w' → Calls Tryz.prog 45 #[.agg #[.slice ra rl rc, .int .i64 p.pol, .int .i64 p.win, .int .i64 p.last, .slice ga gl gc, .slice wa wl wk, .slice ta tl tc]] w' fun e w'' => e = .returned (.bool (planOk p)) ∧ Below w'.heap.size w' w'') := fun w' hb => implPlanOk ra rl rc ga gl gc wa wl wk ta tl tc p w' (IsPla.below HP.out hb) (HE.out.below hb)
  by_cases hok : planOk p = true
  case neg =>
    have hok' : planOk p = false := by simpa using hok
    have HF : Hid (boardB p = ⟨#[]⟩) := if_neg hok
    rw [hok'] at HK
    clear hok hok'
    go_enter Tryz.func19, Tryz.ntmps19
    go_wp2_with fail
    refine (HK.out _ ((Below.refl _ _).alloc (Nat.le_refl _) _)).mono ?_
    rintro e w1 ⟨rfl, hb1⟩
    have HB1 : Hid _ := unbox (below_box hb1)
    clear hb1
    go_wp2_with fail
    go_ret
    exact ⟨congrArg (fun s => Ending.returned (.string s)) HF.out.symm, HB1.out⟩
  have hpo := planOk_ok hok
  have HPO : Hid (PlanOk p) := hpo
  have HF : Hid (boardB p = boardT p) := if_pos hok
  rw [hok] at HK
  clear hpo hok
  go_enter Tryz.func19, Tryz.ntmps19
  go_wp2_with fail
  refine (HK.out _ ((Below.refl _ _).alloc (Nat.le_refl _) _)).mono ?_
  rintro e w1 ⟨rfl, hb1⟩
  have HB1 : Hid _ := below_box hb1
  clear hb1 HK
  have hlast := HPO.out.last
  have hnb := calNext_bd p.rs p.last
  have hgn : gl ≤ 8 := by have := HPO.out.goesN; have := mostG_bd p.pol; omega
  have hwn : wl ≤ 8 := by have := HPO.out.waitsN; have := mostW_bd p.pol; omega
  have HI : Hid (∀ W, Below w.heap.size w W → Calls Tryz.prog 46 #[.int .i64 p.last] W fun e w' => e = .returned (.string (itoB p.last)) ∧ Below W.heap.size W w') := fun W hb => itoa _ (wf_tick (by omega)) W (HT.out.below hb)
  have HI2 : Hid (∀ W, Below w.heap.size w W → Calls Tryz.prog 46 #[.int .i64 (calNext p.rs p.last)] W fun e w' => e = .returned (.string (itoB (calNext p.rs p.last))) ∧ Below W.heap.size W w') := fun W hb => itoa _ (wf_tick (by omega)) W (HT.out.below hb)
  have HCN : Hid (∀ W, Below w.heap.size w W → Calls Tryz.prog 47 #[.slice ra rl rc, .int .i64 p.last] W fun e w' => e = .returned (.int .i64 (calNext p.rs p.last)) ∧ Below W.heap.size W w') := fun W hb => implCalNext ra rl rc p.rs p.last (by omega) W (IsPla.below HP.out hb).1 (HE.out.below hb)
  have HNG : Hid (∀ W, Below w.heap.size w W → Calls Tryz.prog 48 #[.slice ga gl gc] W fun e w' => ∃ v, e = .returned v ∧ Row w' v (sv (numS p.goes)) ∧ Below W.heap.size W w') := fun W hb => numWords ga gl gc p.goes W (IsPla.below HP.out hb).2.1 (HT.out.below hb) (by omega)
  have HNW : Hid (∀ W, Below w.heap.size w W → Calls Tryz.prog 48 #[.slice wa wl wk] W fun e w' => ∃ v, e = .returned v ∧ Row w' v (sv (numS p.waits)) ∧ Below W.heap.size W w') := fun W hb => numWords wa wl wk p.waits W (IsPla.below HP.out hb).2.2.1 (HT.out.below hb) (by omega)
  have s1 := itoB_size p.last (by omega) (by omega)
  obtain ⟨LA, ELA⟩ : ∃ LA, Hid (LA = itoB p.last) := ⟨_, rfl⟩
  obtain ⟨NX, ENX⟩ : ∃ NX, Hid (NX = itoB (calNext p.rs p.last)) := ⟨_, rfl⟩
  rw [← ELA.out] at HI s1
  rw [← ENX.out] at HI2
  obtain ⟨nx, Enx⟩ : ∃ nx, Hid (nx = calNext p.rs p.last) := ⟨_, rfl⟩
  rw [← Enx.out] at HI2 HCN
  clear hlast hnb
  go_upto_region 3 with fail
  go_cut [3] (fun t3 wx => OwnRowsW wx (w.heap.size + 1) t3 (headRows LA NX p.goes p.waits) ∧ Below (w.heap.size + 1) (w.alloc (.cells #[.slice ra rl rc, .int .i64 p.pol, .int .i64 p.win, .int .i64 p.last, .slice ga gl gc, .slice wa wl wk, .slice ta tl tc] 31)) wx)
  case first =>
    have hLA : ¬ 9223372036854775807 < LA.size + 1 := by omega
    have hz0 : (w.alloc (.cells #[.slice ra rl rc, .int .i64 p.pol, .int .i64 p.win, .int .i64 p.last, .slice ga gl gc, .slice wa wl wk, .slice ta tl tc] 31)).heap.size = w.heap.size + 1 := by simp
    refine wp_region_noPanic (RI.wp_region_inv (by kernel_rfl) (by kernel_rfl) (InvB w.heap.size ra rl rc ga gl gc wa wl wk p.last nx LA NX p.goes p.waits (.agg #[.slice ra rl rc, .int .i64 p.pol, .int .i64 p.win, .int .i64 p.last, .slice ga gl gc, .slice wa wl wk, .slice ta tl tc]) (w.alloc (.cells #[.slice ra rl rc, .int .i64 p.pol, .int .i64 p.win, .int .i64 p.last, .slice ga gl gc, .slice wa wl wk, .slice ta tl tc] 31))) ⟨fun _ => undef, by kernel_rfl, HB1.out.drew, fun j hj h => (rep_none _ j h).elim⟩ (fun i o listed a W hi hs hl haft hinv => ?_) (fun listed a W hs hall hinv => ?_))
    case refine_2 =>
      obtain ⟨xs, rfl, hB, hF⟩ := hinv
      have d22 : OwnRowsW W (w.heap.size + 1) (xs 22) (headRows LA NX p.goes p.waits) := hF 22 (by decide) (by have := hall 22 (by decide); simpa [Array.getD, hs] using this)
      simp only [frameB]
      refine NoPanic.normal ?_
      generalize xs 22 = x22 at d22 ⊢
      clear hF hall
      have HX : Hid _ := And.intro d22 hB
      clear d22 hB
      go_wp2_with fail
      go_meet
      case rel => exact HX.out
    obtain ⟨xs, rfl, hB, hF⟩ := hinv
    have hi23 : i < 23 := (Array.getElem?_eq_some_iff.1 hi).1
    have hsz : w.heap.size + 1 ≤ W.heap.size := by have := hB.size; omega
    have c0 := boxAt hB (i := 0) rfl
    have c3 := boxAt hB (i := 3) rfl
    have c4 := boxAt hB (i := 4) rfl
    have c5 := boxAt hB (i := 5) rfl
    rcases (show i = 0 ∨ i = 1 ∨ i = 2 ∨ i = 3 ∨ i = 4 ∨ i = 5 ∨ i = 6 ∨ i = 7 ∨ i = 8 ∨ i = 9 ∨ i = 10 ∨ i = 11 ∨ i = 12 ∨ i = 13 ∨ i = 14 ∨ i = 15 ∨ i = 16 ∨ i = 17 ∨ i = 18 ∨ i = 19 ∨ i = 20 ∨ i = 21 ∨ i = 22 by omega) with rfl | rfl | rfl | rfl | rfl | rfl | rfl | rfl | rfl | rfl | rfl | rfl | rfl | rfl | rfl | rfl | rfl | rfl | rfl | rfl | rfl | rfl | rfl
    · have ho := Option.some.inj hi
      subst ho
      exact RI.op_val (d := some 9) (v := .pointer (some ⟨w.heap.size, 3, none⟩)) hi (by kernel_rfl) rfl (by simp [go_sem, frameB]) (InvB.put hz0 hB hF 0 _ (by kernel_rfl) (Below.refl _ _) rfl)
    · have ho := Option.some.inj hi
      subst ho
      have d0 : xs 0 = .pointer (some ⟨w.heap.size, 3, none⟩) := hF 0 (by decide) (RI.dep haft 0 (by kernel_rfl))
      exact RI.op_val (d := some 10) (v := .int .i64 p.last) hi (by kernel_rfl) rfl (by simp [go_sem, frameB, d0, c3]) (InvB.put hz0 hB hF 1 _ (by kernel_rfl) (Below.refl _ _) rfl)
    · have ho := Option.some.inj hi
      subst ho
      have d1 : xs 1 = .int .i64 p.last := hF 1 (by decide) (RI.dep haft 1 (by kernel_rfl))
      refine RI.op_one hi (by kernel_rfl) fun KK hKK => ?_
      refine wp_callOne (HI.out W (unbox hB)) (fun e w' h => ⟨_, h.1⟩) (enters_of Tryz.func46 (by kernel_rfl) rfl) _ _ (d := some 11) rfl (by rfl) ((show _ = xs 1 by kernel_rfl).trans d1) ?_
      rintro r w5 ⟨he, hw5⟩
      cases he
      exact hKK _ _ (InvB.put hz0 hB hF 2 _ (by kernel_rfl) hw5 rfl)
    · have ho := Option.some.inj hi
      subst ho
      have d2 : xs 2 = .string LA := hF 2 (by decide) (RI.dep haft 2 (by kernel_rfl))
      exact RI.op_val (d := some 12) (v := .string (LA ++ ⟨#[44]⟩)) hi (by kernel_rfl) rfl (by simp [go_sem, frameB, d2, hLA]) (InvB.put hz0 hB hF 3 _ (by kernel_rfl) (Below.refl _ _) rfl)
    · have ho := Option.some.inj hi
      subst ho
      exact RI.op_val (d := some 13) (v := .pointer (some ⟨w.heap.size, 0, none⟩)) hi (by kernel_rfl) rfl (by simp [go_sem, frameB]) (InvB.put hz0 hB hF 4 _ (by kernel_rfl) (Below.refl _ _) rfl)
    · have ho := Option.some.inj hi
      subst ho
      have d4 : xs 4 = .pointer (some ⟨w.heap.size, 0, none⟩) := hF 4 (by decide) (RI.dep haft 4 (by kernel_rfl))
      exact RI.op_val (d := some 14) (v := .slice ra rl rc) hi (by kernel_rfl) rfl (by simp [go_sem, frameB, d4, c0]) (InvB.put hz0 hB hF 5 _ (by kernel_rfl) (Below.refl _ _) rfl)
    · have ho := Option.some.inj hi
      subst ho
      exact RI.op_val (d := some 15) (v := .pointer (some ⟨w.heap.size, 3, none⟩)) hi (by kernel_rfl) rfl (by simp [go_sem, frameB]) (InvB.put hz0 hB hF 6 _ (by kernel_rfl) (Below.refl _ _) rfl)
    · have ho := Option.some.inj hi
      subst ho
      have d6 : xs 6 = .pointer (some ⟨w.heap.size, 3, none⟩) := hF 6 (by decide) (RI.dep haft 6 (by kernel_rfl))
      exact RI.op_val (d := some 16) (v := .int .i64 p.last) hi (by kernel_rfl) rfl (by simp [go_sem, frameB, d6, c3]) (InvB.put hz0 hB hF 7 _ (by kernel_rfl) (Below.refl _ _) rfl)
    · have ho := Option.some.inj hi
      subst ho
      have d5 : xs 5 = .slice ra rl rc := hF 5 (by decide) (RI.dep haft 5 (by kernel_rfl))
      have d7 : xs 7 = .int .i64 p.last := hF 7 (by decide) (RI.dep haft 7 (by kernel_rfl))
      refine RI.op_one hi (by kernel_rfl) fun KK hKK => ?_
      refine wp_callTwo (HCN.out W (unbox hB)) (fun e w' h => ⟨_, h.1⟩) (enters_of Tryz.func47 (by kernel_rfl) rfl) _ _ _ (d := some 17) rfl (by rfl) ((show _ = xs 5 by kernel_rfl).trans d5) ((show _ = xs 7 by kernel_rfl).trans d7) ?_
      rintro r w5 ⟨he, hw5⟩
      cases he
      exact hKK _ _ (InvB.put hz0 hB hF 8 _ (by kernel_rfl) hw5 rfl)
    · have ho := Option.some.inj hi
      subst ho
      have d8 : xs 8 = .int .i64 nx := hF 8 (by decide) (RI.dep haft 8 (by kernel_rfl))
      refine RI.op_one hi (by kernel_rfl) fun KK hKK => ?_
      refine wp_callOne (HI2.out W (unbox hB)) (fun e w' h => ⟨_, h.1⟩) (enters_of Tryz.func46 (by kernel_rfl) rfl) _ _ (d := some 18) rfl (by rfl) ((show _ = xs 8 by kernel_rfl).trans d8) ?_
      rintro r w5 ⟨he, hw5⟩
      cases he
      exact hKK _ _ (InvB.put hz0 hB hF 9 _ (by kernel_rfl) hw5 rfl)
    · have ho := Option.some.inj hi
      subst ho
      have d3 : xs 3 = .string (LA ++ comB) := hF 3 (by decide) (RI.dep haft 3 (by kernel_rfl))
      have d9 : xs 9 = .string NX := hF 9 (by decide) (RI.dep haft 9 (by kernel_rfl))
      have e : xs = upd (upd xs 3 (.string (LA ++ comB))) 9 (.string NX) := upd_two d3 d9
      clear d3 d9
      rw [e] at hF ⊢
      clear e
      refine RI.op_one hi (by kernel_rfl) fun KK hKK => ?_
      simp only [frameB, upd]
      go_simp
      refine hKK _ _ (InvB.put hz0 hB hF 10 (.slice (some ⟨W.heap.size, 0, none⟩) 4 4) (by kernel_rfl) ((Below.refl _ _).alloc (Nat.le_refl _) _) ?_)
      exact World.ownsRow_lit W #[.string wLast, .string (LA ++ comB), .string wNext, .string NX] 4 hsz (by unfold maxLen; omega) rfl
    · have ho := Option.some.inj hi
      subst ho
      refine RI.op_one hi (by kernel_rfl) fun KK hKK => ?_
      simp only [frameB, upd]
      go_simp
      refine hKK _ _ (InvB.put hz0 hB hF 11 (.slice (some ⟨W.heap.size, 0, none⟩) 1 1) (by kernel_rfl) ((Below.refl _ _).alloc (Nat.le_refl _) _) ?_)
      exact ⟨_, rfl, World.ownsRow_lit W #[.string wGoes] 1 hsz (by unfold maxLen; omega) rfl⟩
    · have ho := Option.some.inj hi
      subst ho
      exact RI.op_val (d := some 21) (v := .pointer (some ⟨w.heap.size, 4, none⟩)) hi (by kernel_rfl) rfl (by simp [go_sem, frameB]) (InvB.put hz0 hB hF 12 _ (by kernel_rfl) (Below.refl _ _) rfl)
    · have ho := Option.some.inj hi
      subst ho
      have d12 : xs 12 = .pointer (some ⟨w.heap.size, 4, none⟩) := hF 12 (by decide) (RI.dep haft 12 (by kernel_rfl))
      exact RI.op_val (d := some 22) (v := .slice ga gl gc) hi (by kernel_rfl) rfl (by simp [go_sem, frameB, d12, c4]) (InvB.put hz0 hB hF 13 _ (by kernel_rfl) (Below.refl _ _) rfl)
    · have ho := Option.some.inj hi
      subst ho
      have d13 : xs 13 = .slice ga gl gc := hF 13 (by decide) (RI.dep haft 13 (by kernel_rfl))
      refine RI.op_one hi (by kernel_rfl) fun KK hKK => ?_
      refine wp_callOne (HNG.out W (unbox hB)) (fun e w' h => by obtain ⟨v, h, _⟩ := h; exact ⟨v, h⟩) (enters_of Tryz.func48 (by kernel_rfl) rfl) _ _ (d := some 23) rfl (by rfl) ((show _ = xs 13 by kernel_rfl).trans d13) ?_
      rintro r w5 ⟨v, he, hrow, hw5⟩
      cases he
      exact hKK _ _ (InvB.put hz0 hB hF 14 _ (by kernel_rfl) hw5 hrow)
    · have ho := Option.some.inj hi
      subst ho
      have d11 : ∃ k, xs 11 = .slice (some ⟨k, 0, none⟩) 1 1 ∧ W.ownsRow (w.heap.size + 1) 9 1 (xs 11) 1 (sv [wGoes]) := hF 11 (by decide) (RI.dep haft 11 (by kernel_rfl))
      have d14 : Row W (xs 14) (sv (numS p.goes)) := hF 14 (by decide) (RI.dep haft 14 (by kernel_rfl))
      obtain ⟨k, e11, o11⟩ := d11
      rw [e11] at o11
      refine RI.op_one hi (by kernel_rfl) fun KK hKK => ?_
      refine wp_app_full _ _ rfl (w.heap.size + 1) k (xs 14) wGoes (numS p.goes) ((show _ = xs 11 by kernel_rfl).trans e11) o11 (show _ = xs 14 by kernel_rfl) d14 (by rw [numS_len]; omega) hsz (d := some 24) rfl ?_
      intro v' w' hown hb'
      exact hKK _ _ (InvB.put hz0 hB hF 15 _ (by kernel_rfl) hb' hown)
    · have ho := Option.some.inj hi
      subst ho
      refine RI.op_one hi (by kernel_rfl) fun KK hKK => ?_
      simp only [frameB, upd]
      go_simp
      refine hKK _ _ (InvB.put hz0 hB hF 16 (.slice (some ⟨W.heap.size, 0, none⟩) 1 1) (by kernel_rfl) ((Below.refl _ _).alloc (Nat.le_refl _) _) ?_)
      exact ⟨_, rfl, World.ownsRow_lit W #[.string wWaits] 1 hsz (by unfold maxLen; omega) rfl⟩
    · have ho := Option.some.inj hi
      subst ho
      exact RI.op_val (d := some 26) (v := .pointer (some ⟨w.heap.size, 5, none⟩)) hi (by kernel_rfl) rfl (by simp [go_sem, frameB]) (InvB.put hz0 hB hF 17 _ (by kernel_rfl) (Below.refl _ _) rfl)
    · have ho := Option.some.inj hi
      subst ho
      have d17 : xs 17 = .pointer (some ⟨w.heap.size, 5, none⟩) := hF 17 (by decide) (RI.dep haft 17 (by kernel_rfl))
      exact RI.op_val (d := some 27) (v := .slice wa wl wk) hi (by kernel_rfl) rfl (by simp [go_sem, frameB, d17, c5]) (InvB.put hz0 hB hF 18 _ (by kernel_rfl) (Below.refl _ _) rfl)
    · have ho := Option.some.inj hi
      subst ho
      have d18 : xs 18 = .slice wa wl wk := hF 18 (by decide) (RI.dep haft 18 (by kernel_rfl))
      refine RI.op_one hi (by kernel_rfl) fun KK hKK => ?_
      refine wp_callOne (HNW.out W (unbox hB)) (fun e w' h => by obtain ⟨v, h, _⟩ := h; exact ⟨v, h⟩) (enters_of Tryz.func48 (by kernel_rfl) rfl) _ _ (d := some 28) rfl (by rfl) ((show _ = xs 18 by kernel_rfl).trans d18) ?_
      rintro r w5 ⟨v, he, hrow, hw5⟩
      cases he
      exact hKK _ _ (InvB.put hz0 hB hF 19 _ (by kernel_rfl) hw5 hrow)
    · have ho := Option.some.inj hi
      subst ho
      have d16 : ∃ k, xs 16 = .slice (some ⟨k, 0, none⟩) 1 1 ∧ W.ownsRow (w.heap.size + 1) 9 1 (xs 16) 1 (sv [wWaits]) := hF 16 (by decide) (RI.dep haft 16 (by kernel_rfl))
      have d19 : Row W (xs 19) (sv (numS p.waits)) := hF 19 (by decide) (RI.dep haft 19 (by kernel_rfl))
      obtain ⟨k, e16, o16⟩ := d16
      rw [e16] at o16
      refine RI.op_one hi (by kernel_rfl) fun KK hKK => ?_
      refine wp_app_full _ _ rfl (w.heap.size + 1) k (xs 19) wWaits (numS p.waits) ((show _ = xs 16 by kernel_rfl).trans e16) o16 (show _ = xs 19 by kernel_rfl) d19 (by rw [numS_len]; omega) hsz (d := some 29) rfl ?_
      intro v' w' hown hb'
      exact hKK _ _ (InvB.put hz0 hB hF 20 _ (by kernel_rfl) hb' hown)
    · have ho := Option.some.inj hi
      subst ho
      have d10 : W.ownsRow (w.heap.size + 1) 9 1 (xs 10) 4 (sv [wLast, LA ++ comB, wNext, NX]) := hF 10 (by decide) (RI.dep haft 10 (by kernel_rfl))
      have d15 : W.ownsRow (w.heap.size + 1) 9 1 (xs 15) (1 + (numS p.goes).length) (sv (wGoes :: numS p.goes)) := hF 15 (by decide) (RI.dep haft 15 (by kernel_rfl))
      have d20 : W.ownsRow (w.heap.size + 1) 9 1 (xs 20) (1 + (numS p.waits).length) (sv (wWaits :: numS p.waits)) := hF 20 (by decide) (RI.dep haft 20 (by kernel_rfl))
      obtain ⟨x10, y10, e10⟩ := own_form d10
      obtain ⟨x15, y15, e15⟩ := own_form d15
      obtain ⟨x20, y20, e20⟩ := own_form d20
      have e : xs = upd (upd (upd xs 10 (.slice x10 4 y10)) 15 (.slice x15 (1 + (numS p.goes).length) y15)) 20 (.slice x20 (1 + (numS p.waits).length) y20) := upd_three e10 e15 e20
      rw [e10] at d10
      rw [e15] at d15
      rw [e20] at d20
      clear e10 e15 e20
      rw [e] at hF ⊢
      clear e
      refine RI.op_one hi (by kernel_rfl) fun KK hKK => ?_
      simp only [frameB, upd]
      go_simp
      refine hKK _ _ (InvB.put hz0 hB hF 21 (.slice (some ⟨W.heap.size, 0, none⟩) 3 3) (by kernel_rfl) ((Below.refl _ _).alloc (Nat.le_refl _) _) ?_)
      refine ⟨[_, _, _], rfl, World.ownsRow_lit W #[_, _, _] 3 hsz (by unfold maxLen; omega) rfl, fun i h => ?_⟩
      have ha := (Below.refl W.heap.size W).alloc (Nat.le_refl _) (.cells #[.slice x10 4 y10, .slice x15 (1 + (numS p.goes).length) y15, .slice x20 (1 + (numS p.waits).length) y20] 67)
      rcases (show i = 0 ∨ i = 1 ∨ i = 2 by simp [headRows] at h; omega) with rfl | rfl | rfl
      · exact ⟨_, own_below d10 ha⟩
      · exact ⟨_, own_below d15 ha⟩
      · exact ⟨_, own_below d20 ha⟩
    · have ho := Option.some.inj hi
      subst ho
      have d21 : OwnRowsW W (w.heap.size + 1) (xs 21) (headRows LA NX p.goes p.waits) := hF 21 (by decide) (RI.dep haft 21 (by kernel_rfl))
      exact RI.op_val (d := some 3) (v := xs 21) hi (by kernel_rfl) rfl (by simp [go_sem, frameB]) (InvB.put hz0 hB hF 22 _ (by kernel_rfl) (Below.refl _ _) d21)
  case rest =>
    obtain ⟨hown, hB⟩ := hcut
    rename World => wc
    have HTO : Hid (∀ i (h : i < p.told.length), (1 ≤ p.told[i].wh ∧ p.told[i].wh ≤ 5) ∧ Fits p.told[i].tk) := fun i h => by
      obtain ⟨h1, h2, h3⟩ := HPO.out.told i h
      have := due_bd (rs := p.rs) (u := p.told[i].tk) (by unfold calDue; rw [HPO.out.rules, h3]; rfl)
      exact ⟨h1, by omega, by omega⟩
    have HRW : Hid (rowsT (headRows LA NX p.goes p.waits ++ toldR p.told) = boardT p) := by
      show _ = _
      rw [ELA.out, ENX.out]; exact rows_board p
    have HSM : Hid (RowsSm (headRows LA NX p.goes p.waits ++ toldR p.told)) := by
      show RowsSm _
      rw [ELA.out, ENX.out]
      exact rows_small HPO.out (fun n hn => by obtain ⟨i, hi, rfl⟩ := List.getElem_of_mem hn; have := times_fit' HPO.out HPO.out.goes i hi; rwa [getD_at _ _ hi] at this) (fun n hn => by obtain ⟨i, hi, rfl⟩ := List.getElem_of_mem hn; have := times_fit' HPO.out HPO.out.waits i hi; rwa [getD_at _ _ hi] at this) (fun t ht => by obtain ⟨i, hi, rfl⟩ := List.getElem_of_mem ht; exact (HTO.out i hi).2)
    have ht60 : p.told.length ≤ 60 := HPO.out.told60
    clear HI HI2 HCN HNG HNW s1 HB1 hgn hwn ELA ENX Enx
    have hhl : (headRows LA NX p.goes p.waits).length = 3 := rfl
    generalize headRows LA NX p.goes p.waits = HR at hown HRW HSM hhl
    obtain ⟨i0, hi, hz0, hz1, hz2⟩ := info_parts infoRows
    have c6 := boxAt hB (i := 6) rfl
    have HOW : Hid _ := hown
    have HBC : Hid _ := hB
    clear hown hB
    go_wp2_with fail
    go_loopw [3, 34] (fun v i wr => ∃ (k : Nat) (vv : Value), k ≤ tl ∧ i = .int .i64 k ∧ v = vv ∧ OwnRowsW wr (w.heap.size + 1) vv (HR ++ toldR (p.told.take k)) ∧ Below (w.heap.size + 1) (w.alloc (.cells #[.slice ra rl rc, .int .i64 p.pol, .int .i64 p.win, .int .i64 p.last, .slice ga gl gc, .slice wa wl wk, .slice ta tl tc] 31)) wr) (fun _ i _ => tl - (intOf i).toNat)
    case atStart => exact ⟨0, _, Nat.zero_le _, rfl, rfl, by rw [show HR ++ toldR (p.told.take 0) = HR by simp [toldR]]; exact HOW.out, HBC.out⟩
    case round =>
      obtain ⟨k, vv, hk, rfl, rfl, hp, hb⟩ := hrel
      have hlt' : (HR ++ toldR (p.told.take k)).length = 3 + k := by simp [toldR, hhl]; omega
      obtain ⟨av, cv, hvv⟩ := hp.form
      rw [hlt'] at hvv
      subst hvv
      clear c6 HBC HOW
      by_cases hlt : k < tl
      · obtain ⟨b, off, rfl, h1, h2, d0, d1, f0, f1⟩ := IsTlds.at (IsPla.below HP.out (unbox hb)).2.2.2 (i := k) (by omega)
        obtain ⟨hfw, _⟩ := HTO.out k (by omega)
        have HTK : Hid (HR ++ toldR (p.told.take (k + 1)) = HR ++ toldR (p.told.take k) ++ [(itoB (p.told[k]'(by omega)).tk, [whB (p.told[k]'(by omega)).wh])]) := by
          show _ = _
          rw [List.take_succ_eq_append_getElem (by omega), toldR_app, ← List.append_assoc]
          rfl
        generalize p.told[k]'(by omega) = t at d0 d1 HTK hfw f0 f1
        obtain ⟨tk, wh⟩ := t
        simp only at d0 d1 HTK hfw f0 f1
        obtain ⟨wn, rfl⟩ : ∃ wn : Nat, wh = wn := ⟨wh.toNat, by omega⟩
        have HW : Hid (∀ o, Calls Tryz.prog 49 #[.agg #[.int .i64 tk, .int .i64 wn]] (wr.alloc o) fun e w' => ∃ v, e = .returned v ∧ w'.ownsRow (wr.alloc o).heap.size 9 1 v 2 (sv [itoB tk, whB wn]) ∧ Below (wr.alloc o).heap.size (wr.alloc o) w') := fun o => toldWords tk wn (wr.alloc o) ((HT.out.below (unbox hb)).below ((Below.refl _ _).alloc (Nat.le_refl _) _)) f0 (by omega)
        have HP2 : Hid (OwnRowsW wr (w.heap.size + 1) (.slice av (3 + k) cv) (HR ++ toldR (p.told.take k))) := hp
        clear hp f0 f1 hfw
        have hsz : w.heap.size + 1 ≤ wr.heap.size := by have := hb.size; simpa using this
        go_wp2_with fail
        refine (HW.out _).mono ?_
        rintro e w2 ⟨u, rfl, hown2, hw2⟩
        obtain ⟨vs, hvs, g1, g2⟩ := HP2.out
        have hbw2 : Below wr.heap.size wr w2 := bcall ((Below.refl _ _).alloc (Nat.le_refl _) _) (by simp) hw2
        have hsz2 : w.heap.size + 1 ≤ w2.heap.size := Nat.le_trans hsz hbw2.size
        obtain ⟨au, cu, rfl⟩ := own_form hown2
        have hO1 := own_below (own_below g1 hbw2) ((Below.refl _ _).alloc (Nat.le_refl _) (.cells #[.slice au 2 cu] 67))
        rw [hlt'] at hO1
        have HO1 : Hid _ := hO1
        have HO3 : Hid _ := own_less (own_below hown2 ((Below.refl _ _).alloc (Nat.le_refl _) (.cells #[.slice au 2 cu] 67))) (show w.heap.size + 1 ≤ _ by simp; omega)
        have HG2 : Hid (∀ i (h : i < (HR ++ toldR (p.told.take k)).length), ∃ n, (w2.alloc (.cells #[.slice au 2 cu] 67)).ownsRow (w.heap.size + 1) 9 1 (vs[i]'(by omega)) n (sv ((HR ++ toldR (p.told.take k))[i].1 :: (HR ++ toldR (p.told.take k))[i].2))) := fun i hi => by
          obtain ⟨m, hm⟩ := g2 i hi
          exact ⟨m, own_below (own_below hm hbw2) ((Below.refl _ _).alloc (Nat.le_refl _) _)⟩
        have hnew : ∀ j x, [Value.slice au 2 cu][j]? = some x → (w2.alloc (.cells #[.slice au 2 cu] 67)).cell? ((⟨w2.heap.size, 0, none⟩ : Addr).add j) = some x := World.news_of_block (heap_alloc_new w2 (.cells #[.slice au 2 cu] 67))
        have HNW : Hid _ := hnew
        clear hnew hO1 g1 g2 hown2
        go_wp2_with (at_builtin; refine wpList_append_own _ rfl _ _ 69 rfl (w.heap.size + 1) 67 i0 (.slice none 0 0) 1 24 Tryz.underlying69 hi hz0 hz1 hz2 rfl (by decide) (.slice av (3 + k) cv) (3 + k) vs rfl HO1.out ⟨w2.heap.size, 0, none⟩ 1 1 _ rfl rfl HNW.out (by simp [Value.oneCell']) (by unfold maxLen; omega) (by omega) (by simp; omega) ?_; intro v' w5 hown5 hgrow5 _)
        go_roundw
        case rel =>
          refine ⟨k + 1, _, by omega, by go_num, rfl, ?_, ?_⟩
          · rw [HTK.out]
            exact OwnRowsW.push hvs (by rw [hlt']; exact HO1.out) HG2.out HO3.out (by rw [hlt']; exact hown5) hgrow5
          · exact ((hb.trans (hbw2.mono hsz)).alloc hsz2 _).trans ((Below.refl _ _).grown hgrow5 (by simp; omega) (fun j hj => (World.ownsRow.lt HO1.out j hj).1))
        case measure => simp [intOf]; omega
      · have he : p.told.take k = p.told := List.take_of_length_le (by omega)
        rw [he] at hp
        have HBO : Hid _ := boardOfW _ _ _ hp.rows HSM.out
        rw [HRW.out] at HBO
        clear hp he
        go_wp2_with fail
        refine Calls.mono HBO.out ?_
        rintro e w2 ⟨rfl, hw2⟩
        go_wp2_with fail
        go_ret
        exact ⟨congrArg (fun s => Ending.returned (.string s)) HF.out.symm, (unbox hb).trans (hw2.mono (unbox hb).size)⟩
end Pl
end Go.Proofs.YtnieaeakaajleaaGreatDoor
