/- The model's l42Copy: a plan whose lists are rows of their own. -/
import Derived.Test.YtghocdiddolinaaGreatDoorJ11
import Derived.Test.YtghocdiddolinaaGreatDoorJ18
namespace Go.Proofs.YtghocdiddolinaaGreatDoor
set_option linter.unusedVariables false
set_option linter.unusedSimpArgs false
open Go.RowKit Go
namespace Pl
open Dr (ButO rowB rowB_own rowB_pos)

theorem flat_oneT : ∀ ts : List Tld, ∀ u ∈ flatT ts, u.oneCell' = true := by
  intro ts
  induction ts with
  | nil => intro u hu; cases hu
  | cons t r ih =>
    intro u hu
    have hf : flatT (t :: r) = cellsT t ++ flatT r := rfl
    rw [hf, List.mem_append] at hu
    rcases hu with hu | hu
    · simp only [cellsT, List.mem_cons, List.not_mem_nil, or_false] at hu
      rcases hu with rfl | rfl <;> rfl
    · exact ih u hu
theorem GathS.empty {w : World} {base n : Nat} (h : Holds w n 73 #[]) (hb : base ≤ n) : GathS w base (.slice (some ⟨n, 0, none⟩) 0 0) [] [] :=
  ⟨rfl, ⟨rfl, .inr ⟨n, 0, #[], rfl, hb, h, Nat.le_refl _, Nat.zero_le _, rfl, rfl⟩⟩, fun i h => absurd h (Nat.not_lt_zero i)⟩
/-- What stands while the three lists are copied. -/
def CpK (w wr W : World) (P Z X : Array Value) : Prop := Holds W w.heap.size 31 P ∧ Holds W (w.heap.size + 1) 31 Z ∧ Holds W (w.heap.size + 1 + 1) 31 X ∧ SameP wr W ∧ Below w.heap.size w W
theorem CpK.step {w wr W W5 : World} {P Z X X' : Array Value} (h : CpK w wr W P Z X) (hb : Below W.heap.size W W5) (i : Nat) (v : Value) (e : X.setIfInBounds i v = X') : CpK w wr (W5.setCell ⟨w.heap.size + 1 + 1, i, none⟩ v) P Z X' ∧ SameP W (W5.setCell ⟨w.heap.size + 1 + 1, i, none⟩ v) ∧ W5.heap.size ≤ (W5.setCell ⟨w.heap.size + 1 + 1, i, none⟩ v).heap.size := by
  obtain ⟨h1, h2, h3, h4, h5⟩ := h
  obtain ⟨k1, k2⟩ := box_set (h3.below hb) i v e
  exact ⟨⟨holds_else (h1.below hb) (by omega) i v, holds_else (h2.below hb) (by omega) i v, k1, (h4.trans (SameP.below hb)).trans k2, (bcall h5 h5.size hb).setCell (p := ⟨w.heap.size + 1 + 1, i, none⟩) (by simp only; omega) v⟩, (SameP.below hb).trans k2, by simp⟩
theorem butO_same {w w' : World} {F : Nat} {u : Value} {zs : List Int} (h : ButO w F u zs) (hs : SameP w w') : ButO w' F u zs := h.stay hs.size fun b e => by obtain ⟨_, _, c, k⟩ := h.block e; rw [k]; exact hs.rows b c _ _ (.inr (.inl rfl)) k
theorem tO_same {w w' : World} {F : Nat} {u : Value} {ts : List Tld} (h : TO w F u ts) (hs : SameP w w') : TO w' F u ts := h.stay fun b e => by obtain ⟨_, _, c, k⟩ := h.block e; rw [k]; exact hs.rows b c _ _ (.inr (.inr rfl)) k
theorem GathS.forth {wr w' W : World} {base : Nat} {v : Value} {vs : List Value} {es : List Rul} (h : GathS wr base v vs es) (hs : SameP wr w') (hb : Below wr.heap.size w' W) : GathS W base v vs es :=
  h.sameP ⟨Nat.le_trans hs.size hb.size, fun k c t fz ht hk => (hb.block k (Array.getElem?_eq_some_iff.1 hk).1).trans (hs.rows k c t fz ht hk)⟩
theorem und_copy {w : World} {F F1 F2 F3 : Nat} {vg vw vt : Value} {gs ws : List Int} {ts : List Tld} (hg : ButO w F1 vg gs) (hw : ButO w F2 vw ws) (ht : TO w F3 vt ts) (h1 : F ≤ F1) (h2 : F ≤ F2) (h3 : F ≤ F3) (h4 : ∀ b, rowB vg = some b → b < F2) : Und w F vg vw vt (.slice none 0 0) gs ws ts [] where
  goes := hg.base h1
  waits := hw.base h2
  told := ht.base h3
  out := .inl ⟨rfl, none, rfl⟩
  ap1 := fun b e e2 => by have := h4 b e; have := (hw.block e2).1; omega
  ap2 := fun b _ e2 => by simp [rowB] at e2
/-- All that was told, appended to nothing. -/
theorem wp_copyT {w : World} {ops : Array Oper} {rest : List Oper} {o : Oper} {a : Act} {Q : Exit → Act → World → Prop} (hgd : o.guard = none) (s x : Operand)
    (ho : o.op = .call { callee := .builtin .append, args := #[s, x], argTypes := #[29, 29] })
    (F : Nat) (v : Value) (ax : Option Addr) (n cx : Nat) (ts : List Tld) (hs : a.eval s = v) (hacc : Acc w F 61 2 v 0 []) (hv : ∃ b, v = .slice b 0 0)
    (hx : a.eval x = .slice ax n cx) (hr : IsTlds w ax n cx ts) (hn : n ≤ 1099511627776) (hF : F ≤ w.heap.size)
    (h : ∀ v' w', TO w' F v' ts → Below F w w' → wpList Tryz.prog ops Q rest (a.put o.dst v') w') : wpList Tryz.prog ops Q (o :: rest) a w := by
  have hl := (IsRecs.len hr).1
  obtain ⟨i, hi, hzz⟩ := Option.map_eq_some_iff.1 info_PlanTold
  simp only [Prod.mk.injEq] at hzz
  obtain ⟨hz, hsize, hby⟩ := hzz
  obtain ⟨b, rfl⟩ := hv
  by_cases h0 : n = 0
  · have hzs : ts = [] := List.length_eq_zero_iff.1 (by omega)
    subst hzs h0
    refine wpList_plain hgd fun K hK => ?_
    have hrun := append_none (P := Tryz.prog) w 29 o.type 61 i Tryz.underlying29 hi b ax cx
    unfold Oper.wp execOp
    simp only [ho, resolve, invoke, builtin, Sem.run_bind, Sem.run_pure, Result.andThen_ok, List.map_toArray, List.map_cons, List.map_nil, hs, hx, hrun]
    exact hK _ _ (h _ w (.inl ⟨rfl, b, rfl⟩) (Below.refl _ _))
  · obtain ⟨b1, off1, rfl, _⟩ := IsTlds.at hr (i := 0) (by omega)
    refine wpList_plain hgd fun K hK => ?_
    obtain ⟨v', w', hrun, h2, h3, h4, _⟩ := Cal.run_acc_at (P := Tryz.prog) w F 29 o.type 61 i _ 2 16 Tryz.underlying29 hi hz hsize hby rfl (by decide) _ 0 [] hacc ⟨b1, off1, none⟩ n cx (flatT ts) (by omega) (by rw [flatT_len, hl]) (fun j u hj => by
      have hjl : j < ts.length * 2 := by have := (List.getElem?_eq_some_iff.1 hj).1; rw [flatT_len] at this; exact this
      obtain ⟨b2, off2, e2, _, _, c0, c1, _⟩ := IsTlds.at hr (i := j / 2) (by omega)
      simp only [Option.some.injEq, Addr.mk.injEq, and_true] at e2
      obtain ⟨rfl, rfl⟩ := e2
      have hfj := flatT_at ts (j / 2) (j % 2) (by omega) (Nat.mod_lt _ (by decide))
      rw [show j / 2 * 2 + j % 2 = j by omega, hj] at hfj
      rw [Addr.add_lit]
      rcases (by omega : j % 2 = 0 ∨ j % 2 = 1) with e | e
      · rw [e] at hfj
        simp only [cellsT, List.getElem?_cons_zero, Option.some.injEq] at hfj
        rw [hfj, ← c0, show off1 + j / 2 * 2 = off1 + j by omega]
      · rw [e] at hfj
        simp only [cellsT, List.getElem?_cons_succ, List.getElem?_cons_zero, Option.some.injEq] at hfj
        rw [hfj, ← c1, show off1 + j / 2 * 2 + 1 = off1 + j by omega]) (flat_oneT ts) (by unfold maxLen; omega) (by omega) hF
    unfold Oper.wp execOp
    simp only [ho, resolve, invoke, builtin, Sem.run_bind, Sem.run_pure, Result.andThen_ok, List.map_toArray, List.map_cons, List.map_nil, hs, hx, hrun]
    exact hK _ _ (h v' w' (TO.of_own (by rw [hl]; simpa using h2)) h3)

set_option maxRecDepth 4000 in
set_option maxHeartbeats 2000000 in
theorem copyU (ra : Option Addr) (rl rc : Nat) (rs : List Rul) (pol win last : Int) (ga : Option Addr) (gl gc : Nat) (gs : List Int) (wa : Option Addr) (wl wc : Nat) (ws : List Int) (ta : Option Addr) (tl tc : Nat) (ts : List Tld) (w : World) (hr : IsRuls w ra rl rc rs) (hg : IsRow .i64 w ga gl gc gs) (hw : IsRow .i64 w wa wl wc ws) (ht : IsTlds w ta tl tc ts)
    (hs1 : rl ≤ 1048576) (hs2 : ∀ i (h : i < rs.length), rulSmall rs[i]) (hs3 : gl ≤ 1048576) (hs4 : wl ≤ 1048576) (hs5 : tl ≤ 1048576) :
    Calls Tryz.prog 21 #[.agg #[.slice ra rl rc, .int .i64 pol, .int .i64 win, .int .i64 last, .slice ga gl gc, .slice wa wl wc, .slice ta tl tc]] w fun e w' => (∃ av cv vs vg vw vt F', e = .returned (.agg #[.slice av rl cv, .int .i64 pol, .int .i64 win, .int .i64 last, vg, vw, vt]) ∧ w.heap.size ≤ F' ∧ F' ≤ w'.heap.size ∧ (∀ W, Below F' w' W → GathS W w.heap.size (.slice av rl cv) vs rs) ∧ Und w' F' vg vw vt (.slice none 0 0) gs ws ts []) ∧ Below w.heap.size w w' := by
  obtain ⟨hz, hm⟩ := IsRecs.len hr
  have HR : Hid (IsRuls w ra rl rc rs) := hr
  have HG0 : Hid (IsRow .i64 w ga gl gc gs) := hg
  have HW0 : Hid (IsRow .i64 w wa wl wc ws) := hw
  have HT0 : Hid (IsTlds w ta tl tc ts) := ht
  clear hr hg hw ht
  go_enter Tryz.func21, Tryz.ntmps21
  have HBX : Hid _ := boxes4 w 31 31 31 73 #[.slice ra rl rc, .int .i64 pol, .int .i64 win, .int .i64 last, .slice ga gl gc, .slice wa wl wc, .slice ta tl tc] #[.slice none 0 0, .int .i64 0, .int .i64 0, .int .i64 0, .slice none 0 0, .slice none 0 0, .slice none 0 0] #[.slice (some ⟨w.heap.size + 1 + 1 + 1, 0, none⟩) 0 0, .int .i64 pol, .int .i64 win, .int .i64 last, .slice ga gl gc, .slice wa wl wc, .slice ta tl tc] #[]
  go_upto_region 3 with fail
  have HG1 : Hid (GathS _ w.heap.size (.slice (some ⟨w.heap.size + 1 + 1 + 1, 0, none⟩) 0 0) [] []) := GathS.empty HBX.out.2.2.2.1 (by omega)
  have HSZ : Hid (w.heap.size + 4 ≤ _) := (by simp : w.heap.size + 4 ≤ ((((w.alloc (.cells #[.slice ra rl rc, .int .i64 pol, .int .i64 win, .int .i64 last, .slice ga gl gc, .slice wa wl wc, .slice ta tl tc] 31)).alloc (.cells #[.slice none 0 0, .int .i64 0, .int .i64 0, .int .i64 0, .slice none 0 0, .slice none 0 0, .slice none 0 0] 31)).alloc (.cells #[.slice (some ⟨w.heap.size + 1 + 1 + 1, 0, none⟩) 0 0, .int .i64 pol, .int .i64 win, .int .i64 last, .slice ga gl gc, .slice wa wl wc, .slice ta tl tc] 31)).alloc (.cells #[] 73)).heap.size)
  generalize hW : (((w.alloc (.cells #[.slice ra rl rc, .int .i64 pol, .int .i64 win, .int .i64 last, .slice ga gl gc, .slice wa wl wc, .slice ta tl tc] 31)).alloc (.cells #[.slice none 0 0, .int .i64 0, .int .i64 0, .int .i64 0, .slice none 0 0, .slice none 0 0, .slice none 0 0] 31)).alloc (.cells #[.slice (some ⟨w.heap.size + 1 + 1 + 1, 0, none⟩) 0 0, .int .i64 pol, .int .i64 win, .int .i64 last, .slice ga gl gc, .slice wa wl wc, .slice ta tl tc] 31)).alloc (.cells #[] 73) = W0 at HBX HG1 HSZ ⊢
  clear hW
  go_wp2_with fail
  go_loopw [4] (fun i wr => ∃ (k : Nat) (av : Option Addr) (cv : Nat) (vs : List Value), k ≤ rl ∧ i = .int .i64 k ∧ GathS wr w.heap.size (.slice av k cv) vs (rs.take k) ∧ Holds wr w.heap.size 31 #[.slice ra rl rc, .int .i64 pol, .int .i64 win, .int .i64 last, .slice ga gl gc, .slice wa wl wc, .slice ta tl tc] ∧ Holds wr (w.heap.size + 1) 31 #[.slice none 0 0, .int .i64 0, .int .i64 0, .int .i64 0, .slice none 0 0, .slice none 0 0, .slice none 0 0] ∧ Holds wr (w.heap.size + 1 + 1) 31 #[.slice av k cv, .int .i64 pol, .int .i64 win, .int .i64 last, .slice ga gl gc, .slice wa wl wc, .slice ta tl tc] ∧ w.heap.size + 4 ≤ wr.heap.size ∧ Below w.heap.size w wr) (fun i _ => rl - (intOf i).toNat)
  case atStart => exact ⟨0, _, 0, [], Nat.zero_le _, rfl, HG1.out, HBX.out.1, HBX.out.2.1, HBX.out.2.2.1, HSZ.out, HBX.out.2.2.2.2⟩
  case round =>
    obtain ⟨k, av, cv, vs, hk, rfl, hG, hP, hR, hX, hsz, hb⟩ := hrel
    have HG : Hid (GathS wr w.heap.size (.slice av k cv) vs (rs.take k)) := hG
    have HP : Hid _ := hP
    have HR2 : Hid _ := hR
    have HX : Hid _ := hX
    have HB : Hid (Below w.heap.size w wr) := hb
    clear hG hR hb HBX HG1 HSZ
    by_cases hlt : k < rl
    · obtain ⟨b, off, rfl, h1, hbl, a', l', c', c0, c1, c2, c3, c4, hrow, g1, g2, g3, g4⟩ := IsRuls.at (IsRuls.below HR.out HB.out) (i := k) (by omega)
      obtain ⟨p0, p1, p2, p3, p4, p5, p6, pf⟩ := sevenOf hP
      have hl := hrow.len
      have HGOOD : Hid (Cal.GoodR rs[k]) := ⟨g1, g2, g3, g4, hrow.wf⟩
      have HROW : Hid (∀ W, Below wr.heap.size wr W → IsRow .i64 W a' l' c' rs[k].but) := fun W h => hrow.below h
      have hsl : l' ≤ 1048576 := by have := hs2 k (by omega); unfold rulSmall at this; omega
      clear g1 g2 g3 g4 hrow hP hX
      have HR0 : Hid (Holds (wr.alloc (.cells #[.int .i64 rs[k].ev, .int .i64 rs[k].at_, .int .i64 rs[k].fr, .int .i64 rs[k].to_, .slice a' l' c'] 73)) wr.heap.size 73 #[.int .i64 rs[k].ev, .int .i64 rs[k].at_, .int .i64 rs[k].fr, .int .i64 rs[k].to_, .slice a' l' c']) := heap_alloc_new _ _
      have hlen : (rs.take k).length = k := by rw [List.length_take]; omega
      have HLEN : Hid _ := hlen
      clear hlen
      go_wp2_with (first | (at_builtin; refine wp_copy_int rfl _ _ rfl (wr.heap.size + 1 + 1) (.slice (some ⟨wr.heap.size + 1, 0, none⟩) 0 0) a' l' c' rs[k].but rfl (Acc.empty _ _ _ (by simp)) ⟨_, rfl⟩ rfl (HROW.out _ (((Below.refl _ _).alloc (Nat.le_refl _) _).alloc (by simp) _)) (by omega) (by simp) ?_; intro v5 w5 hA5 hb5; obtain ⟨a5, k5, rfl⟩ := acc_form hA5; have HS5 : Hid _ := round_stage (u := .slice a5 l' k5) (B := #[.int .i64 rs[k].ev, .int .i64 rs[k].at_, .int .i64 rs[k].fr, .int .i64 rs[k].to_, .slice a5 l' k5]) rfl HG.out hb5; have HIN : Hid (InS w5 w.heap.size (.slice a5 l' k5) rs[k].but) := (by have h := InS.of_acc hA5 (base := w.heap.size) (by have := HB.out.size; omega); rw [hl.1] at h; exact h); have hx5 := Holds.below HX.out HS5.out.2.1; have HX5 : Hid _ := hx5; have HP5 : Hid _ := Holds.below HP.out HS5.out.2.1; have HR5 : Hid _ := Holds.below HR2.out HS5.out.2.1; obtain ⟨e0, e1, e2, e3, e4, ef⟩ := fiveOf HS5.out.1; obtain ⟨x0, x1, x2, x3, x4, x5, x6, xf⟩ := sevenOf hx5; have hs5 : wr.heap.size + 1 + 1 ≤ w5.heap.size := (by have := hb5.size; simpa using this); clear hA5 hb5 hx5) | (at_builtin; refine Cal.wp_acc_at rfl _ _ 28 rfl w.heap.size 73 _ 5 56 Tryz.underlying28 info_CalRule rfl (by decide) (.slice av k cv) k (Cal.flatR (rs.take k) vs) rfl (.inr (by have h := HS5.out.2.2.2.1; rw [HLEN.out] at h; exact h)) ⟨w5.heap.size, 0, none⟩ 1 1 [.int .i64 rs[k].ev, .int .i64 rs[k].at_, .int .i64 rs[k].fr, .int .i64 rs[k].to_, .slice a5 l' k5] rfl (by decide) rfl (fun j u hj => by rw [Addr.add_lit, Nat.zero_add]; have h := World.cell?_alloc_new (w := w5.setCell ⟨wr.heap.size, 4, none⟩ (.slice a5 l' k5)) #[.int .i64 rs[k].ev, .int .i64 rs[k].at_, .int .i64 rs[k].fr, .int .i64 rs[k].to_, .slice a5 l' k5] 73 j; simp only [World.size_setCell] at h; rw [h]; simpa using hj) (by simp [Value.oneCell']) (by unfold maxLen; omega) (by omega) (by have := HS5.out.2.1.size; have := HB.out.size; simp; omega) ?_; intro v7 w7 hA7 hb7 hk7 ho7; obtain ⟨a7, k7, rfl⟩ := acc_form hA7; have HA7 : Hid _ := hA7; have HB7 : Hid _ := hb7; have HK7 : Hid _ := hk7; have HH7 : Hid (∀ N cur, w.heap.size ≤ N → N < w.heap.size + 4 → Holds w5 N 31 cur → Holds w7 N 31 cur) := (fun N cur hN1 hN2 h => (HK7.out _ (by have := HS5.out.2.1.size; simp; omega) (own_box_ne HS5.out.2.2.2.1 (Holds.below (holds_else h (M := wr.heap.size) (by omega) 4 (.slice a5 l' k5)) (al_below _ _)) tnp.2)).trans (Holds.below (holds_else h (M := wr.heap.size) (by omega) 4 (.slice a5 l' k5)) (al_below _ _))); have hx7 := HH7.out _ _ (by omega) (by omega) HX5.out; have HX7 : Hid _ := hx7; obtain ⟨y0, y1, y2, y3, y4, y5, y6, yf⟩ := sevenOf hx7; clear hA7 hb7 hk7 ho7 hx7 x0 x1 x2 x3 x4 x5 x6 xf e0 e1 e2 e3 e4 ef))
      go_roundw
      case rel =>
        have hin6 : InS ((w5.setCell ⟨wr.heap.size, 4, none⟩ (.slice a5 l' k5)).alloc (.cells #[.int .i64 rs[k].ev, .int .i64 rs[k].at_, .int .i64 rs[k].fr, .int .i64 rs[k].to_, .slice a5 l' k5] 73)) w.heap.size (.slice a5 l' k5) rs[k].but := InS.stay (InS.stay HIN.out (int_set HS5.out.1 tne.1 4 (.slice a5 l' k5))) (int_below (al_below _ _))
        have hp := gathS_push HS5.out.2.2 hin6 HGOOD.out (by rw [HLEN.out]; exact HA7.out) HK7.out
        rw [← List.take_succ_eq_append_getElem (by omega : k < rs.length)] at hp
        have hk1 : (rs.take (k + 1)).length = k + 1 := by rw [List.length_take]; omega
        have hb6 : Below w.heap.size w w7 := (((bcall HB.out HB.out.size HS5.out.2.1).setCell (p := ⟨wr.heap.size, 4, none⟩) HB.out.size _).alloc (by have := HS5.out.2.1.size; have := HB.out.size; simp; omega) _).trans HB7.out
        have hp7 := HH7.out _ _ (by omega) (by omega) HP5.out
        have hr7 := HH7.out _ _ (by omega) (by omega) HR5.out
        refine ⟨k + 1, a7, k7, vs ++ [.slice a5 l' k5], by omega, by go_num, ?_, holds_else hp7 (by omega) 0 _, holds_else hr7 (by omega) 0 _, (box_set HX7.out 0 _ rfl).1, by have := HB7.out.size; simp at this ⊢; omega, hb6.setCell (p := ⟨w.heap.size + 1 + 1, 0, none⟩) (by simp only; omega) _⟩
        exact GathS.stay hp (fun b e => Below.heap_setCell w7 ⟨w.heap.size + 1 + 1, 0, none⟩ _ b (fun e2 => by subst e2; exact own_box_ne hp.2.1 HX7.out tnp.2 e)) (int_set HX7.out tnp.1 0 _)
      case measure => simp [intOf]; omega
    · have hkl : k = rl := by omega
      subst hkl
      have HFO : Hid (GathS wr w.heap.size (.slice av k cv) vs rs) := by
        have h := HG.out
        rwa [show rs.take k = rs by rw [← hz, List.take_length]] at h
      have HK0 : Hid (CpK w wr wr #[.slice ra k rc, .int .i64 pol, .int .i64 win, .int .i64 last, .slice ga gl gc, .slice wa wl wc, .slice ta tl tc] #[.slice none 0 0, .int .i64 0, .int .i64 0, .int .i64 0, .slice none 0 0, .slice none 0 0, .slice none 0 0] #[.slice av k cv, .int .i64 pol, .int .i64 win, .int .i64 last, .slice ga gl gc, .slice wa wl wc, .slice ta tl tc]) := ⟨HP.out, HR2.out, HX.out, SameP.below (Below.refl _ _), HB.out⟩
      obtain ⟨p0, p1, p2, p3, p4, p5, p6, pf⟩ := sevenOf hP
      have hplt := hP.lt
      have hxlt := hX.lt
      clear HG HP HR2 HX HB hP hX hlt hk
      have HI1 : Hid (IsRow .i64 (wr.alloc (.cells #[] 3)) ga gl gc gs) := HG0.out.below (bcall HK0.out.2.2.2.2 HK0.out.2.2.2.2.size (al_below _ _))
      go_upto_region 10 with (at_builtin; refine wp_copy_int rfl _ _ rfl (wr.heap.size + 1) (.slice (some ⟨wr.heap.size, 0, none⟩) 0 0) ga gl gc gs rfl (Acc.empty _ _ _ (by simp)) ⟨_, rfl⟩ rfl HI1.out (by omega) (by simp) ?_; intro v5 w5 hA5 hb5; have HA5 : Hid _ := hA5; have HB5 : Hid (Below wr.heap.size wr w5) := bcall (al_below wr (.cells #[] 3)) (by simp) (by simpa using hb5); obtain ⟨a5, k5, rfl⟩ := acc_form hA5; obtain ⟨y0, y1, y2, y3, y4, y5, y6, yf⟩ := sevenOf (Holds.below HK0.out.2.2.1 HB5.out); clear hA5 hb5)
      obtain ⟨hk6, hs6, hz6⟩ := CpK.step HK0.out HB5.out 4 (.slice a5 gs.length k5) (X' := #[.slice av k cv, .int .i64 pol, .int .i64 win, .int .i64 last, .slice a5 gs.length k5, .slice wa wl wc, .slice ta tl tc]) rfl
      have HK6 : Hid _ := hk6
      have HG6 : Hid (ButO (w5.setCell ⟨w.heap.size + 1 + 1, 4, none⟩ (.slice a5 gs.length k5)) (wr.heap.size + 1) (.slice a5 gs.length k5) gs) := Dr.ButO.stay (u := .slice a5 gs.length k5) HA5.out (by simp) fun b e => by
        have h := (Dr.ButO.block (u := .slice a5 gs.length k5) HA5.out e).1
        exact Below.heap_setCell w5 ⟨w.heap.size + 1 + 1, 4, none⟩ _ b (by simp only; omega)
      have HS6 : Hid (wr.heap.size ≤ (w5.setCell ⟨w.heap.size + 1 + 1, 4, none⟩ (.slice a5 gs.length k5)).heap.size) := hs6.size
      clear hk6 hs6 hz6 HK0 HA5 HB5 HI1 y0 y1 y2 y3 y4 y5 y6 yf p0 p1 p2 p3 p4 p5 p6 pf
      generalize hW : w5.setCell ⟨w.heap.size + 1 + 1, 4, none⟩ (.slice a5 gs.length k5) = w6 at HK6 HG6 HS6 ⊢
      clear hW w5
      have HI6 : Hid (IsRow .i64 (w6.alloc (.cells #[] 3)) wa wl wc ws) := HW0.out.below (bcall HK6.out.2.2.2.2 HK6.out.2.2.2.2.size (al_below _ _))
      have hplt6 := HK6.out.1.lt
      have hxlt6 := HK6.out.2.2.1.lt
      obtain ⟨p0, p1, p2, p3, p4, p5, p6, pf⟩ := sevenOf HK6.out.1
      go_upto_region 11 with (at_builtin; refine wp_copy_int rfl _ _ rfl (w6.heap.size + 1) (.slice (some ⟨w6.heap.size, 0, none⟩) 0 0) wa wl wc ws rfl (Acc.empty _ _ _ (by simp)) ⟨_, rfl⟩ rfl HI6.out (by omega) (by simp) ?_; intro v7 w7 hA7 hb7; have HA7 : Hid _ := hA7; have HB7 : Hid (Below w6.heap.size w6 w7) := bcall (al_below w6 (.cells #[] 3)) (by simp) (by simpa using hb7); obtain ⟨a7, k7, rfl⟩ := acc_form hA7; obtain ⟨y0, y1, y2, y3, y4, y5, y6, yf⟩ := sevenOf (Holds.below HK6.out.2.2.1 HB7.out); clear hA7 hb7)
      obtain ⟨hk8, hs8, hz8⟩ := CpK.step (wr := wr) HK6.out HB7.out 5 (.slice a7 ws.length k7) (X' := #[.slice av k cv, .int .i64 pol, .int .i64 win, .int .i64 last, .slice a5 gs.length k5, .slice a7 ws.length k7, .slice ta tl tc]) rfl
      have HK8 : Hid _ := hk8
      have HW8 : Hid (ButO (w7.setCell ⟨w.heap.size + 1 + 1, 5, none⟩ (.slice a7 ws.length k7)) (w6.heap.size + 1) (.slice a7 ws.length k7) ws) := Dr.ButO.stay (u := .slice a7 ws.length k7) HA7.out (by simp) fun b e => by
        have h := (Dr.ButO.block (u := .slice a7 ws.length k7) HA7.out e).1
        exact Below.heap_setCell w7 ⟨w.heap.size + 1 + 1, 5, none⟩ _ b (by simp only; omega)
      have HG8 : Hid (ButO (w7.setCell ⟨w.heap.size + 1 + 1, 5, none⟩ (.slice a7 ws.length k7)) (wr.heap.size + 1) (.slice a5 gs.length k5) gs) := butO_same HG6.out hs8
      have HAP : Hid (∀ b, rowB (.slice a5 gs.length k5) = some b → b < w6.heap.size + 1) := fun b e => by have := (HG6.out.block e).2.1; omega
      have HS8 : Hid (wr.heap.size ≤ w6.heap.size ∧ w6.heap.size ≤ (w7.setCell ⟨w.heap.size + 1 + 1, 5, none⟩ (.slice a7 ws.length k7)).heap.size) := ⟨HS6.out, hs8.size⟩
      clear hk8 hs8 hz8 HK6 HG6 HA7 HB7 HI6 HS6 y0 y1 y2 y3 y4 y5 y6 yf p0 p1 p2 p3 p4 p5 p6 pf hplt6 hxlt6
      generalize hW : w7.setCell ⟨w.heap.size + 1 + 1, 5, none⟩ (.slice a7 ws.length k7) = w8 at HK8 HG8 HW8 HS8 ⊢
      clear hW w7
      have HI8 : Hid (IsTlds (w8.alloc (.cells #[] 61)) ta tl tc ts) := IsTlds.below HT0.out (bcall HK8.out.2.2.2.2 HK8.out.2.2.2.2.size (al_below _ _))
      have hplt8 := HK8.out.1.lt
      have hxlt8 := HK8.out.2.2.1.lt
      obtain ⟨p0, p1, p2, p3, p4, p5, p6, pf⟩ := sevenOf HK8.out.1
      go_upto_region 12 with (at_builtin; refine wp_copyT rfl _ _ rfl (w8.heap.size + 1) (.slice (some ⟨w8.heap.size, 0, none⟩) 0 0) ta tl tc ts rfl (Acc.empty _ _ _ (by simp)) ⟨_, rfl⟩ rfl HI8.out (by omega) (by simp) ?_; intro v9 w9 hA9 hb9; have HA9 : Hid (TO w9 (w8.heap.size + 1) v9 ts) := hA9; have HB9 : Hid (Below w8.heap.size w8 w9) := bcall (al_below w8 (.cells #[] 61)) (by simp) (by simpa using hb9); obtain ⟨a9, k9, rfl⟩ := hA9.form; obtain ⟨y0, y1, y2, y3, y4, y5, y6, yf⟩ := sevenOf (Holds.below HK8.out.2.2.1 HB9.out); clear hA9 hb9)
      obtain ⟨hk10, hs10, hz10⟩ := CpK.step (wr := wr) HK8.out HB9.out 6 (.slice a9 ts.length k9) (X' := #[.slice av k cv, .int .i64 pol, .int .i64 win, .int .i64 last, .slice a5 gs.length k5, .slice a7 ws.length k7, .slice a9 ts.length k9]) rfl
      have HK10 : Hid _ := hk10
      have HT10 : Hid (TO (w9.setCell ⟨w.heap.size + 1 + 1, 6, none⟩ (.slice a9 ts.length k9)) (w8.heap.size + 1) (.slice a9 ts.length k9) ts) := HA9.out.stay fun b e => by
        have h := (HA9.out.block e).1
        exact Below.heap_setCell w9 ⟨w.heap.size + 1 + 1, 6, none⟩ _ b (by simp only; omega)
      have HU10 : Hid (Und (w9.setCell ⟨w.heap.size + 1 + 1, 6, none⟩ (.slice a9 ts.length k9)) wr.heap.size (.slice a5 gs.length k5) (.slice a7 ws.length k7) (.slice a9 ts.length k9) (.slice none 0 0) gs ws ts []) := und_copy (butO_same HG8.out hs10) (butO_same HW8.out hs10) HT10.out (by omega) (by have := HS8.out; omega) (by have := HS8.out; omega) HAP.out
      clear hk10 hs10 hz10 HK8 HG8 HW8 HA9 HB9 HI8 HS8 HT10 HAP y0 y1 y2 y3 y4 y5 y6 yf p0 p1 p2 p3 p4 p5 p6 pf hplt8 hxlt8
      generalize hW : w9.setCell ⟨w.heap.size + 1 + 1, 6, none⟩ (.slice a9 ts.length k9) = w10 at HK10 HU10 ⊢
      clear hW w9
      obtain ⟨x0, x1, x2, x3, x4, x5, x6, xf⟩ := sevenOf HK10.out.2.2.1
      obtain ⟨b0, b1, b2, b3, b4, b5, b6, bf⟩ := sevenOf HK10.out.2.1
      go_wp2_with fail
      refine bodyPost_ret (v := .agg #[.slice av k cv, .int .i64 pol, .int .i64 win, .int .i64 last, .slice a5 gs.length k5, .slice a7 ws.length k7, .slice a9 ts.length k9]) ?_ rfl ?_
      · simp [results, Tryz.results21, go_sem, b0, b1, b2, b3, b4, b5, b6]
      · have h7 := fill7 HK10.out.2.1 (.slice av k cv) (.int .i64 pol) (.int .i64 win) (.int .i64 last) (.slice a5 gs.length k5) (.slice a7 ws.length k7) (.slice a9 ts.length k9)
        exact ⟨⟨av, cv, vs, _, _, _, wr.heap.size, rfl, Nat.le_of_lt hplt |> fun h => by have := HK10.out.2.2.2.2.size; omega, Nat.le_trans HK10.out.2.2.2.1.size h7.size, fun W hb => GathS.forth HFO.out (HK10.out.2.2.2.1.trans h7) hb, HU10.out.same h7⟩, below7 HK10.out.2.2.2.2 (by omega) _ _ _ _ _ _ _⟩
end Pl
end Go.Proofs.YtghocdiddolinaaGreatDoor
