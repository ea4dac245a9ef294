/- The model's PlanNew. -/
import Derived.Test.YtnieaeakaajleaaDoorJ4
import Derived.Test.YtnieaeakaajleaaDoorJ6
import Derived.Test.YtnieaeakaajleaaDoorJ12
import Derived.Test.YtnieaeakaajleaaDoorJ24
namespace Go.Proofs.YtnieaeakaajleaaDoor
set_option linter.unusedVariables false
set_option linter.unusedSimpArgs false
open Go.RowKit Go
namespace Pl

/-- Numbers of a gathered rule: none, or a row of their own. -/
def InS (w : World) (base : Nat) (u : Value) (zs : List Int) : Prop := (zs = [] ∧ ∃ a, u = .slice a 0 0) ∨ w.ownsRow base 3 1 u zs.length (zs.map (Value.int .i64))
def GathS (w : World) (base : Nat) (v : Value) (vs : List Value) (es : List Rul) : Prop :=
  ∃ hv : vs.length = es.length, w.ownsRow base 47 5 v es.length (Cal.flatR es vs) ∧ ∀ i (h : i < es.length), InS w base (vs[i]'(by omega)) es[i].but ∧ Cal.GoodR es[i]
theorem InS.row {w : World} {base : Nat} {u : Value} {zs : List Int} (h : InS w base u zs) (hw : ∀ n ∈ zs, (Lit.int .i64 n).wf = true) : ∃ a c, u = .slice a zs.length c ∧ IsRow .i64 w a zs.length c zs := by
  rcases h with ⟨rfl, a, rfl⟩ | h
  · exact ⟨a, 0, rfl, rfl, Nat.le_refl _, Nat.zero_le _, fun h => absurd h (Nat.lt_irrefl _), hw⟩
  · exact row_int h hw
theorem GathS.ruls {w : World} {base : Nat} {v : Value} {vs : List Value} {es : List Rul} (h : GathS w base v vs es) : ∃ a cap, v = .slice a es.length cap ∧ IsRuls w a es.length cap es := by
  obtain ⟨hv, h1, h2⟩ := h
  rcases h1.2 with ⟨rfl, h0⟩ | ⟨g, cap, cur, rfl, hb, hg, hle, hmx, hsz, htk⟩
  · have : es = [] := List.length_eq_zero_iff.1 h0
    subst this
    exact ⟨none, 0, rfl, rfl, Nat.le_refl _, Nat.zero_le _, fun h => by simp at h⟩
  · refine ⟨_, cap, rfl, rfl, hle, hmx, fun _ => ⟨g, 0, rfl, (Array.getElem?_eq_some_iff.1 hg).1, fun i hi => ?_⟩⟩
    obtain ⟨a, c, hvi, hri⟩ := (h2 i hi).1.row (h2 i hi).2.2.2.2.2
    refine ⟨Cal.cellsR es[i] (vs[i]'(by omega)), rfl, fun j hj => ?_, a, _, c, by rw [hvi]; rfl, hri, (h2 i hi).2.1, (h2 i hi).2.2.1, (h2 i hi).2.2.2.1, (h2 i hi).2.2.2.2.1⟩
    have hj5 : j < 5 := by simpa [Cal.cellsR] using hj
    have hf := Cal.flatR_at es vs i j hv hi hj5
    rw [List.getElem?_eq_getElem hj] at hf
    rw [cell_of_row _ _ _ _ _ _ hg, Nat.zero_add]
    rw [← htk, List.getElem?_take] at hf
    split at hf
    · simpa using hf
    · cases hf
/-- What gathers stands, if its row's block stands and all rows of numbers stand. -/
theorem GathS.stay {w w' : World} {base : Nat} {v : Value} {vs : List Value} {es : List Rul} (h : GathS w base v vs es) (h0 : ∀ b, v.ownBlock = some b → w'.heap[b]? = w.heap[b]?) (h1 : ∀ (k : Nat) (c : Array Value) (fz : Nat × Nat), w.heap[k]? = some (.cells c 3 fz) → w'.heap[k]? = some (.cells c 3 fz)) : GathS w' base v vs es := by
  obtain ⟨hv, k1, k2⟩ := h
  refine ⟨hv, own_stay k1 h0, fun i hi => ⟨?_, (k2 i hi).2⟩⟩
  rcases (k2 i hi).1 with h | h
  · exact .inl h
  · exact .inr (Cal.own_rows h h1)
theorem GathS.below {w w' : World} {base : Nat} {v : Value} {vs : List Value} {es : List Rul} (h : GathS w base v vs es) (hb : Below w.heap.size w w') : GathS w' base v vs es :=
  GathS.stay h (fun b e => hb.block b (World.ownsRow.lt h.2.1 b e).2) (fun k c fz hk => (hb.block k (Array.getElem?_eq_some_iff.1 hk).1).trans hk)
theorem GathS.nil (w : World) (base : Nat) : GathS w base (.slice none 0 0) [] [] := ⟨rfl, World.ownsRow_nil _ _ _ _, fun i h => absurd h (Nat.not_lt_zero i)⟩
theorem acc_form {w : World} {F n : Nat} {e : TypeId} {size : Nat} {v : Value} {xs : List Value} (h : Acc w F e size v n xs) : ∃ a c, v = .slice a n c := by
  rcases h with ⟨rfl, _, a, rfl, _⟩ | h
  · exact ⟨a, 0, rfl⟩
  · exact own_form h
theorem gathS_push {w w' : World} {base : Nat} {v v' u : Value} {vs : List Value} {es : List Rul} {r : Rul} (h : GathS w base v vs es) (hu : InS w base u r.but) (hg : Cal.GoodR r)
    (hA : Acc w' base 47 5 v' (es.length + 1) (Cal.flatR es vs ++ Cal.cellsR r u)) (hk : ∀ k, k < w.heap.size → v.ownBlock ≠ some k → w'.heap[k]? = w.heap[k]?) : GathS w' base v' (vs ++ [u]) (es ++ [r]) := by
  obtain ⟨hv, k1, k2⟩ := h
  have stay : ∀ x zs, InS w base x zs → InS w' base x zs := fun x zs hx => by
    rcases hx with hx | hx
    · exact .inl hx
    · exact .inr (own_stay hx fun b e => hk b (World.ownsRow.lt hx b e).2 (own_ne hx k1 (fun h => tne.1 h.symm) b e))
  have hA' : w'.ownsRow base 47 5 v' (es.length + 1) (Cal.flatR es vs ++ Cal.cellsR r u) := by
    rcases hA with ⟨h0, _⟩ | h
    · omega
    · exact h
  refine ⟨by simp [hv], by rw [Cal.flatR_snoc hv]; simpa using hA', fun i hi => ?_⟩
  by_cases h : i < es.length
  · rw [List.getElem_append_left (by omega : i < vs.length), List.getElem_append_left h]
    exact ⟨stay _ _ (k2 i h).1, (k2 i h).2⟩
  · have hie : i = es.length := by simp at hi; omega
    subst hie
    rw [List.getElem_append_right (by omega : vs.length ≤ es.length), List.getElem_append_right (Nat.le_refl _)]
    simp only [Nat.sub_self, List.getElem_cons_zero, hv]
    exact ⟨stay _ _ hu, hg⟩

theorem InS.stay {w w' : World} {base : Nat} {u : Value} {zs : List Int} (h : InS w base u zs) (h1 : ∀ (k : Nat) (c : Array Value) (fz : Nat × Nat), w.heap[k]? = some (.cells c 3 fz) → w'.heap[k]? = some (.cells c 3 fz)) : InS w' base u zs := by
  rcases h with h | h
  · exact .inl h
  · exact .inr (Cal.own_rows h h1)
theorem GathS.sameP {w w' : World} {base : Nat} {v : Value} {vs : List Value} {es : List Rul} (h : GathS w base v vs es) (hs : SameP w w') : GathS w' base v vs es := by
  obtain ⟨hv, k1, k2⟩ := h
  exact ⟨hv, own_same k1 hs (.inl rfl), fun i hi => ⟨InS.stay (k2 i hi).1 fun k c fz => hs.rows k c _ fz (.inr (.inl rfl)), (k2 i hi).2⟩⟩
theorem InS.of_acc {w : World} {F base : Nat} {u : Value} {zs : List Int} (h : Acc w F 3 1 u zs.length (zs.map (Value.int .i64))) (hb : base ≤ F) : InS w base u zs := by
  rcases h with ⟨h0, _, a, rfl, _⟩ | h
  · exact .inl ⟨List.length_eq_zero_iff.1 h0, a, rfl⟩
  · exact .inr (Cal.own_base h hb)
theorem own_box_ne {w : World} {base n N : Nat} {t t' : TypeId} {size : Nat} {v : Value} {xs : List Value} {cur : Array Value} (h : w.ownsRow base t size v n xs) (hb : Holds w N t' cur) (ht : t ≠ t') : v.ownBlock ≠ some N := fun e => by
  obtain ⟨c1, k1⟩ := Cal.own_int_block h e
  unfold Holds at hb
  rw [k1] at hb
  simp only [Option.some.injEq, Obj.cells.injEq] at hb
  exact ht hb.2.1
theorem int_set {w : World} {N : Nat} {t : TypeId} {cur : Array Value} (h : Holds w N t cur) (ht : t ≠ 3) (i : Nat) (v : Value) : ∀ (k : Nat) (c : Array Value) (fz : Nat × Nat), w.heap[k]? = some (.cells c 3 fz) → (w.setCell ⟨N, i, none⟩ v).heap[k]? = some (.cells c 3 fz) := fun k c fz hk => by
  by_cases e : k = N
  · subst e
    unfold Holds at h
    rw [h] at hk
    simp only [Option.some.injEq, Obj.cells.injEq] at hk
    exact absurd hk.2.1 ht
  · rw [Below.heap_setCell w ⟨N, i, none⟩ v k e]; exact hk
theorem int_below {w w' : World} (hb : Below w.heap.size w w') : ∀ (k : Nat) (c : Array Value) (fz : Nat × Nat), w.heap[k]? = some (.cells c 3 fz) → w'.heap[k]? = some (.cells c 3 fz) := fun k c fz hk => (hb.block k (Array.getElem?_eq_some_iff.1 hk).1).trans hk
theorem al_below (w : World) (o : Obj) : Below w.heap.size w (w.alloc o) := (Below.refl _ _).alloc (Nat.le_refl _) _
theorem tnp : (28 : TypeId) ≠ 3 ∧ (47 : TypeId) ≠ 28 := by decide

/-- What one round of the gathering leaves, ahead of its append. -/
theorem round_stage {wr w5 : World} {base n0 : Nat} {v : Value} {vs : List Value} {es : List Rul} {A B : Array Value} {u : Value} (hn : n0 = wr.heap.size) (hG : GathS wr base v vs es) (hb5 : Below (n0 + 1 + 1) ((wr.alloc (.cells A 47)).alloc (.cells #[] 3)) w5) :
    Holds w5 n0 47 A ∧ Below n0 wr w5 ∧ GathS ((w5.setCell ⟨n0, 4, none⟩ u).alloc (.cells B 47)) base v vs es := by
  subst hn
  have hb5' : Below ((wr.alloc (.cells A 47)).alloc (.cells #[] 3)).heap.size ((wr.alloc (.cells A 47)).alloc (.cells #[] 3)) w5 := by simpa using hb5
  have h0 : Holds w5 wr.heap.size 47 A := ((show Holds (wr.alloc (.cells A 47)) wr.heap.size 47 A from heap_alloc_new _ _).below (al_below _ _)).below hb5'
  have hbw : Below wr.heap.size wr w5 := bcall (((Below.refl _ _).alloc (Nat.le_refl _) _).alloc (by simp) _) (by simp; omega) hb5'
  refine ⟨h0, hbw, GathS.below ?_ (al_below _ _)⟩
  have h1 : GathS w5 base v vs es := GathS.below hG hbw
  exact GathS.stay h1 (fun b e => Below.heap_setCell w5 ⟨wr.heap.size, 4, none⟩ u b (fun e2 => by have := (World.ownsRow.lt hG.2.1 b e).2; simp at e2; omega)) (int_set h0 tne.1 4 u)

set_option maxRecDepth 4000 in
set_option maxHeartbeats 2000000 in
theorem specPlanNew (ra : Option Addr) (rl rc : Nat) (rs : List Rul) (pol win from_ : Int) (w : World) (hr : IsRuls w ra rl rc rs) (hs1 : rl ≤ 1048576) (hs2 : ∀ i (h : i < rs.length), rulSmall rs[i]) :
    Calls Tryd.prog 6 #[.slice ra rl rc, .int .i64 pol, .int .i64 win, .int .i64 from_] w fun e w' => (∃ ra rc ga gc wa wk ta tc, e = .returned (.tuple #[.agg #[.slice ra (newPla rs pol win from_).rs.length rc, .int .i64 (newPla rs pol win from_).pol, .int .i64 (newPla rs pol win from_).win, .int .i64 (newPla rs pol win from_).last, .slice ga 0 gc, .slice wa 0 wk, .slice ta 0 tc], .bool (newOk rs pol win from_)]) ∧ IsPla w' ra (newPla rs pol win from_).rs.length rc ga 0 gc wa 0 wk ta 0 tc (newPla rs pol win from_)) ∧ Below w.heap.size w w' := by
  obtain ⟨hz, hm⟩ := IsRecs.len hr
  have HR : Hid (IsRuls w ra rl rc rs) := hr
  clear hr
  have hbx := boxes2_new w 28 28 #[.slice none 0 0, .int .i64 0, .int .i64 0, .int .i64 0, .slice none 0 0, .slice none 0 0, .slice none 0 0] #[.slice none 0 0, .int .i64 pol, .int .i64 win, .int .i64 from_, .slice none 0 0, .slice none 0 0, .slice none 0 0]
  have HBX : Hid _ := hbx
  have HB0 : Hid _ := ((Below.refl w.heap.size w).alloc (Nat.le_refl _) (.cells #[.slice none 0 0, .int .i64 0, .int .i64 0, .int .i64 0, .slice none 0 0, .slice none 0 0, .slice none 0 0] 28)).alloc (by simp) (.cells #[.slice none 0 0, .int .i64 pol, .int .i64 win, .int .i64 from_, .slice none 0 0, .slice none 0 0, .slice none 0 0] 28)
  clear hbx
  go_enter Tryd.func6, Tryd.ntmps6
  go_wp2_with fail
  go_loopw [11] (fun i wr => ∃ (k : Nat) (av : Option Addr) (cv : Nat) (vs : List Value), k ≤ rl ∧ i = .int .i64 k ∧ GathS wr w.heap.size (.slice av k cv) vs (rs.take k) ∧ Holds wr (w.heap.size + 1) 28 #[.slice av k cv, .int .i64 pol, .int .i64 win, .int .i64 from_, .slice none 0 0, .slice none 0 0, .slice none 0 0] ∧ Holds wr w.heap.size 28 #[.slice none 0 0, .int .i64 0, .int .i64 0, .int .i64 0, .slice none 0 0, .slice none 0 0, .slice none 0 0] ∧ Below w.heap.size w wr) (fun i _ => rl - (intOf i).toNat)
  case atStart => exact ⟨0, none, 0, [], Nat.zero_le _, rfl, GathS.nil _ _, HBX.out.2, HBX.out.1, HB0.out⟩
  case round =>
    obtain ⟨k, av, cv, vs, hk, rfl, hG, hX, hY, hb⟩ := hrel
    have HG : Hid (GathS wr w.heap.size (.slice av k cv) vs (rs.take k)) := hG
    have HX : Hid _ := hX
    have HY : Hid _ := hY
    have HB : Hid _ := hb
    have hxlt := hX.lt
    clear hG hX hY hb HBX HB0
    by_cases hlt : k < rl
    · obtain ⟨b, off, rfl, h1, hbl, a', l', c', c0, c1, c2, c3, c4, hrow, g1, g2, g3, g4⟩ := IsRuls.at (IsRuls.below HR.out HB.out) (i := k) (by omega)
      have hl := hrow.len
      have HGOOD : Hid (Cal.GoodR rs[k]) := ⟨g1, g2, g3, g4, hrow.wf⟩
      have HROW : Hid (∀ W, Below wr.heap.size wr W → IsRow .i64 W a' l' c' rs[k].but) := fun W h => hrow.below h
      have hsl : l' ≤ 1048576 := by have := hs2 k (by omega); unfold rulSmall at this; omega
      clear g1 g2 g3 g4 hrow
      have hr0 : Holds (wr.alloc (.cells #[.int .i64 rs[k].ev, .int .i64 rs[k].at_, .int .i64 rs[k].fr, .int .i64 rs[k].to_, .slice a' l' c'] 47)) wr.heap.size 47 #[.int .i64 rs[k].ev, .int .i64 rs[k].at_, .int .i64 rs[k].fr, .int .i64 rs[k].to_, .slice a' l' c'] := heap_alloc_new _ _
      have HR0 : Hid _ := hr0
      clear hr0
      have hlen : (rs.take k).length = k := by rw [List.length_take]; omega
      have HLEN : Hid _ := hlen
      clear hlen
      go_wp2_with (first | (at_builtin; refine wp_copy_int rfl _ _ rfl (wr.heap.size + 1 + 1) (.slice (some ⟨wr.heap.size + 1, 0, none⟩) 0 0) a' l' c' rs[k].but rfl (Acc.empty _ _ _ (by simp)) ⟨_, rfl⟩ rfl (HROW.out _ (((Below.refl _ _).alloc (Nat.le_refl _) _).alloc (by simp) _)) (by omega) (by simp) ?_; intro v5 w5 hA5 hb5; obtain ⟨a5, k5, rfl⟩ := acc_form hA5; have HS5 : Hid _ := round_stage (u := .slice a5 l' k5) (B := #[.int .i64 rs[k].ev, .int .i64 rs[k].at_, .int .i64 rs[k].fr, .int .i64 rs[k].to_, .slice a5 l' k5]) rfl HG.out hb5; have HIN : Hid (InS w5 w.heap.size (.slice a5 l' k5) rs[k].but) := (by have h := InS.of_acc hA5 (base := w.heap.size) (by have := HB.out.size; omega); rw [hl.1] at h; exact h); have hx5 := Holds.below HX.out HS5.out.2.1; have HX5 : Hid _ := hx5; have HY5 : Hid _ := Holds.below HY.out HS5.out.2.1; obtain ⟨e0, e1, e2, e3, e4, ef⟩ := fiveOf HS5.out.1; obtain ⟨x0, x1, x2, x3, x4, x5, x6, xf⟩ := sevenOf hx5; have hs5 : wr.heap.size + 1 + 1 ≤ w5.heap.size := (by have := hb5.size; simpa using this); clear hA5 hb5 hx5) | (at_builtin; refine Cal.wp_acc_at rfl _ _ 24 rfl w.heap.size 47 _ 5 56 Tryd.underlying24 info_CalRule rfl (by decide) (.slice av k cv) k (Cal.flatR (rs.take k) vs) rfl (.inr (by have h := HS5.out.2.2.2.1; rw [HLEN.out] at h; exact h)) ⟨w5.heap.size, 0, none⟩ 1 1 [.int .i64 rs[k].ev, .int .i64 rs[k].at_, .int .i64 rs[k].fr, .int .i64 rs[k].to_, .slice a5 l' k5] rfl (by decide) rfl (fun j u hj => by rw [Addr.add_lit, Nat.zero_add]; have h := World.cell?_alloc_new (w := w5.setCell ⟨wr.heap.size, 4, none⟩ (.slice a5 l' k5)) #[.int .i64 rs[k].ev, .int .i64 rs[k].at_, .int .i64 rs[k].fr, .int .i64 rs[k].to_, .slice a5 l' k5] 47 j; simp only [World.size_setCell] at h; rw [h]; simpa using hj) (by simp [Value.oneCell']) (by unfold maxLen; omega) (by omega) (by have := HS5.out.2.1.size; have := HB.out.size; simp; omega) ?_; intro v7 w7 hA7 hb7 hk7 ho7; obtain ⟨a7, k7, rfl⟩ := acc_form hA7; have HA7 : Hid _ := hA7; have HB7 : Hid _ := hb7; have HK7 : Hid _ := hk7; have hx7 : Holds w7 (w.heap.size + 1) 28 #[.slice av k cv, .int .i64 pol, .int .i64 win, .int .i64 from_, .slice none 0 0, .slice none 0 0, .slice none 0 0] := (HK7.out _ (by have := HS5.out.2.1.size; simp; omega) (own_box_ne HS5.out.2.2.2.1 (Holds.below (holds_else HX5.out (M := wr.heap.size) (by omega) 4 (.slice a5 l' k5)) (al_below _ _)) tnp.2)).trans (Holds.below (holds_else HX5.out (M := wr.heap.size) (by omega) 4 (.slice a5 l' k5)) (al_below _ _)); have HX7 : Hid _ := hx7; obtain ⟨y0, y1, y2, y3, y4, y5, y6, yf⟩ := sevenOf hx7; clear hA7 hb7 hk7 ho7 hx7 x0 x1 x2 x3 x4 x5 x6 xf e0 e1 e2 e3 e4 ef))
      go_roundw
      case rel =>
        have hin6 : InS ((w5.setCell ⟨wr.heap.size, 4, none⟩ (.slice a5 l' k5)).alloc (.cells #[.int .i64 rs[k].ev, .int .i64 rs[k].at_, .int .i64 rs[k].fr, .int .i64 rs[k].to_, .slice a5 l' k5] 47)) w.heap.size (.slice a5 l' k5) rs[k].but := InS.stay (InS.stay HIN.out (int_set HS5.out.1 tne.1 4 (.slice a5 l' k5))) (int_below (al_below _ _))
        have hp := gathS_push HS5.out.2.2 hin6 HGOOD.out (by rw [HLEN.out]; exact HA7.out) HK7.out
        rw [← List.take_succ_eq_append_getElem (by omega : k < rs.length)] at hp
        have hk1 : (rs.take (k + 1)).length = k + 1 := by rw [List.length_take]; omega
        have hb6 : Below w.heap.size w w7 := (((bcall HB.out HB.out.size HS5.out.2.1).setCell (p := ⟨wr.heap.size, 4, none⟩) HB.out.size _).alloc (by have := HS5.out.2.1.size; have := HB.out.size; simp; omega) _).trans HB7.out
        have hy7 : Holds w7 w.heap.size 28 #[.slice none 0 0, .int .i64 0, .int .i64 0, .int .i64 0, .slice none 0 0, .slice none 0 0, .slice none 0 0] := (HK7.out _ (by have := HS5.out.2.1.size; simp; omega) (own_box_ne HS5.out.2.2.2.1 (Holds.below (holds_else HY5.out (M := wr.heap.size) (by omega) 4 (.slice a5 l' k5)) (al_below _ _)) tnp.2)).trans (Holds.below (holds_else HY5.out (M := wr.heap.size) (by omega) 4 (.slice a5 l' k5)) (al_below _ _))
        refine ⟨k + 1, a7, k7, vs ++ [.slice a5 l' k5], by omega, by go_num, ?_, (box_set HX7.out 0 _ rfl).1, holds_else hy7 (by omega) 0 _, hb6.setCell (p := ⟨w.heap.size + 1, 0, none⟩) (by simp only; omega) _⟩
        exact GathS.stay hp (fun b e => Below.heap_setCell w7 ⟨w.heap.size + 1, 0, none⟩ _ b (fun e2 => by subst e2; exact own_box_ne hp.2.1 HX7.out tnp.2 e)) (int_set HX7.out tnp.1 0 _)
      case measure => simp [intOf]; omega
    · have hkl : k = rl := by omega
      subst hkl
      have hg : GathS wr w.heap.size (.slice av k cv) vs rs := by
        have h := HG.out
        rwa [show rs.take k = rs by rw [← hz, List.take_length]] at h
      obtain ⟨a1, k1, e1, hru⟩ := hg.ruls
      rw [hz] at e1 hru
      simp only [Value.slice.injEq, true_and] at e1
      obtain ⟨rfl, rfl⟩ := e1
      have HIP : Hid (∀ w', Below wr.heap.size wr w' → IsPla w' av k cv none 0 0 none 0 0 none 0 0 ⟨rs, pol, win, from_, [], [], []⟩) := fun w' hb => ⟨hru.below hb, ⟨rfl, Nat.le_refl _, Nat.zero_le _, fun h => absurd h (Nat.lt_irrefl _), fun n hn => by cases hn⟩, ⟨rfl, Nat.le_refl _, Nat.zero_le _, fun h => absurd h (Nat.lt_irrefl _), fun n hn => by cases hn⟩, ⟨rfl, Nat.le_refl _, Nat.zero_le _, fun h => absurd h (Nat.lt_irrefl _)⟩⟩
      have HK : Hid (Calls Tryd.prog 15 #[.agg #[.slice av k cv, .int .i64 pol, .int .i64 win, .int .i64 from_, .slice none 0 0, .slice none 0 0, .slice none 0 0]] wr fun e w'' => e = .returned (.bool (newOk rs pol win from_)) ∧ Below wr.heap.size wr w'') := specPlanOk av k cv none 0 0 none 0 0 none 0 0 ⟨rs, pol, win, from_, [], [], []⟩ wr (HIP.out wr (Below.refl _ _))
      have HGS : Hid (GathS wr w.heap.size (.slice av k cv) vs rs) := hg
      clear hru hg HG
      obtain ⟨x0, x1, x2, x3, x4, x5, x6, xf⟩ := sevenOf HX.out
      go_wp2_with fail
      refine Calls.mono HK.out ?_
      rintro e w1 ⟨rfl, hb1⟩
      have HX1 : Hid _ := Holds.below HX.out hb1
      have HY1 : Hid _ := Holds.below HY.out hb1
      have HB1 : Hid _ := bcall HB.out HB.out.size hb1
      have HBW : Hid _ := hb1
      clear hb1 x0 x1 x2 x3 x4 x5 x6 xf
      obtain ⟨x0, x1, x2, x3, x4, x5, x6, xf⟩ := sevenOf HX1.out
      obtain ⟨b0, b1, b2, b3, b4, b5, b6, bf⟩ := sevenOf HY1.out
      by_cases hok : newOk rs pol win from_ = true
      · have HN : Hid (newPla rs pol win from_ = ⟨rs, pol, win, from_, [], [], []⟩) := by show newPla rs pol win from_ = _; unfold newPla; rw [if_pos hok]
        have HOK : Hid (newOk rs pol win from_ = true) := hok
        rw [hok]
        clear hok
        go_wp2_with fail
        refine bodyPost_ret (v := .tuple #[.agg #[.slice av k cv, .int .i64 pol, .int .i64 win, .int .i64 from_, .slice none 0 0, .slice none 0 0, .slice none 0 0], .bool true]) ?_ rfl ?_
        · simp [results, Tryd.results6, go_sem, b0, b1, b2, b3, b4, b5, b6]
        · rw [HN.out, HOK.out]
          have hgs := GathS.sameP (GathS.below HGS.out HBW.out) (fill7 HY1.out (.slice av k cv) (.int .i64 pol) (.int .i64 win) (.int .i64 from_) (.slice none 0 0) (.slice none 0 0) (.slice none 0 0))
          obtain ⟨a2, c2, e2, hru2⟩ := hgs.ruls
          rw [hz] at e2 hru2
          simp only [Value.slice.injEq, true_and] at e2
          obtain ⟨rfl, rfl⟩ := e2
          refine ⟨⟨av, cv, none, 0, none, 0, none, 0, by rw [hz], ?_⟩, below7 HB1.out (Nat.le_refl _) _ _ _ _ _ _ _⟩
          rw [hz]
          exact ⟨hru2, ⟨rfl, Nat.le_refl _, Nat.zero_le _, fun h => absurd h (Nat.lt_irrefl _), fun n hn => by cases hn⟩, ⟨rfl, Nat.le_refl _, Nat.zero_le _, fun h => absurd h (Nat.lt_irrefl _), fun n hn => by cases hn⟩, ⟨rfl, Nat.le_refl _, Nat.zero_le _, fun h => absurd h (Nat.lt_irrefl _)⟩⟩
      · have hok' : newOk rs pol win from_ = false := by simpa using hok
        have HN : Hid (newPla rs pol win from_ = ⟨[], 0, 0, 0, [], [], []⟩) := by show newPla rs pol win from_ = _; unfold newPla; rw [if_neg hok]; rfl
        have HOK : Hid (newOk rs pol win from_ = false) := hok'
        rw [hok']
        clear hok hok'
        go_wp2_with fail
        refine bodyPost_ret (v := .tuple #[.agg #[.slice none 0 0, .int .i64 0, .int .i64 0, .int .i64 0, .slice none 0 0, .slice none 0 0, .slice none 0 0], .bool false]) ?_ rfl ?_
        · simp [results, Tryd.results6, go_sem, b0, b1, b2, b3, b4, b5, b6]
        · rw [HN.out, HOK.out]
          exact ⟨⟨none, 0, none, 0, none, 0, none, 0, rfl, ⟨rfl, Nat.le_refl _, Nat.zero_le _, fun h => absurd h (Nat.lt_irrefl _)⟩, ⟨rfl, Nat.le_refl _, Nat.zero_le _, fun h => absurd h (Nat.lt_irrefl _), fun n hn => by cases hn⟩, ⟨rfl, Nat.le_refl _, Nat.zero_le _, fun h => absurd h (Nat.lt_irrefl _), fun n hn => by cases hn⟩, ⟨rfl, Nat.le_refl _, Nat.zero_le _, fun h => absurd h (Nat.lt_irrefl _)⟩⟩, below7 HB1.out (Nat.le_refl _) _ _ _ _ _ _ _⟩
end Pl
end Go.Proofs.YtnieaeakaajleaaDoor
