/- The program's own CalWrite. -/
import Derived.Test.YtdanfekodmncmaaDoorWI2
import Derived.Test.YtdanfekodmncmaaDoorCI3
import Derived.Test.YtdanfekodmncmaaDoorCWL
import Derived.Laws.AppendOwn
import Derived.Deep.AppendLies
namespace Go.Proofs.YtdanfekodmncmaaDoor
set_option linter.unusedVariables false
set_option linter.unusedSimpArgs false
open Go.RowKit Go

theorem infoSS : (Tryd.prog.info? 58).map (fun i => (i.zero, i.size, i.bytes)) = some (some (.slice none 0 0), 1, 24) := by kernel_rfl

/-- Rows of words that are the call's own. -/
def OwnRows (W : World) (M : Nat) (v : Value) (rs : List Rul) : Prop :=
  ∃ vs : List Value, ∃ hv : vs.length = rs.length, W.ownsRow M 58 1 v rs.length vs ∧ ∀ i (h : i < rs.length), ∃ n, W.ownsRow M 9 1 (vs[i]'(by omega)) n (sv (evB :: ruleW rs[i]))
theorem OwnRows.nil (W : World) (M : Nat) : OwnRows W M (.slice none 0 0) [] := ⟨[], rfl, World.ownsRow_nil _ _ _ _, fun i h => by simp at h⟩
theorem OwnRows.form {W : World} {M : Nat} {v : Value} {rs : List Rul} (h : OwnRows W M v rs) : ∃ a c, v = .slice a rs.length c := by
  obtain ⟨vs, hv, h1, _⟩ := h
  rcases h1.2 with ⟨rfl, hn⟩ | ⟨g, cap, cur, rfl, _⟩
  · exact ⟨none, 0, by rw [hn]⟩
  · exact ⟨_, _, rfl⟩
theorem OwnRows.rows {W : World} {M : Nat} {v : Value} {rs : List Rul} (h : OwnRows W M v rs) : RowsOf W v rs := by
  obtain ⟨vs, hv, h1, h2⟩ := h
  exact ⟨vs, hv, Row.owned h1, fun i hi => by obtain ⟨n, hn⟩ := h2 i hi; exact Row.owned hn⟩
theorem OwnRows.push {w w' : World} {M : Nat} {v v' u : Value} {rs : List Rul} {r : Rul} {n : Nat} {vs : List Value} (hv : vs.length = rs.length) (h1 : w.ownsRow M 58 1 v rs.length vs)
    (h2 : ∀ i (h : i < rs.length), ∃ n, w.ownsRow M 9 1 (vs[i]'(by omega)) n (sv (evB :: ruleW rs[i]))) (h3 : w.ownsRow M 9 1 u n (sv (evB :: ruleW r)))
    (hown : w'.ownsRow M 58 1 v' (rs.length + 1) (vs ++ [u])) (hg : w.grownBy w' v.ownBlock) : OwnRows w' M v' (rs ++ [r]) := by
  have keep : ∀ (x : Value) (m : Nat) (xs : List Value), w.ownsRow M 9 1 x m xs → w'.ownsRow M 9 1 x m xs := fun x m xs h => by
    refine ⟨h.1, ?_⟩
    rcases h.2 with h | ⟨g, cap, cur, e1, e2, e3, e4⟩
    · exact .inl h
    · refine .inr ⟨g, cap, cur, e1, e2, (hg.block g (Array.getElem?_eq_some_iff.1 e3).1 (fun e => ?_)).trans e3, e4⟩
      rcases h1.2 with ⟨rfl, _⟩ | ⟨g', cap', cur', rfl, _, hgg, _⟩
      · simp [Value.ownBlock] at e
      · simp [Value.ownBlock] at e
        subst e
        rw [e3] at hgg
        simp at hgg
  refine ⟨vs ++ [u], by simp [hv], by simpa using hown, fun i hi => ?_⟩
  by_cases h : i < rs.length
  · obtain ⟨m, hm⟩ := h2 i h
    rw [List.getElem_append_left (by omega : i < vs.length), List.getElem_append_left h]
    exact ⟨m, keep _ _ _ hm⟩
  · have hie : i = rs.length := by simp at hi; omega
    subst hie
    rw [List.getElem_append_right (by omega : vs.length ≤ rs.length), List.getElem_append_right (Nat.le_refl _)]
    simp only [Nat.sub_self, List.getElem_cons_zero, hv]
    exact ⟨n, keep _ _ _ h3⟩

set_option maxRecDepth 4000 in
set_option maxHeartbeats 2000000 in
theorem implCalWrite (a : Option Addr) (len cap : Nat) (rs : List Rul) (w : World) (hr : IsRuls w a len cap rs) (hg : ErrT w) (ht : Tab w) :
    Calls Tryd.prog 20 #[.slice a len cap] w fun e w' => e = .returned (.string (calW rs)) ∧ Below w.heap.size w w' := by
  obtain ⟨hz, hm⟩ := IsRecs.len hr
  unfold maxLen at hm
  have HK := implCalOk a len cap rs w hr hg
  have HR : Hid (IsRuls w a len cap rs) := hr
  have HT : Hid (Tab w) := ht
  clear hr hg ht
  by_cases hok : calOk rs = true
  · rw [hok] at HK
    have HK : Hid _ := HK
    have hlen4 : len ≤ 4 := by
      have h := hok
      simp only [calOk, Bool.and_eq_true, decide_eq_true_eq] at h
      omega
    have HOK : Hid (∀ i (hi : i < rs.length), RuleOk rs[i]) := calOk_rules hok
    have HF : Hid (calW rs = calT rs) := by show _ = _; unfold calW; rw [if_pos hok]
    clear hok
    obtain ⟨i0, hi, hz0, hz1, hz2⟩ := info_parts infoSS
    go_enter Tryd.func20, Tryd.ntmps20
    go_wp2_with fail
    refine Calls.mono HK.out ?_
    rintro e w1 ⟨rfl, hw1⟩
    go_wp2_with fail
    go_loopw [3, 11] (fun v i wr => ∃ (k : Nat) (vv : Value), k ≤ len ∧ i = .int .i64 k ∧ v = vv ∧ OwnRows wr w.heap.size vv (rs.take k) ∧ Below w.heap.size w wr) (fun _ i _ => len - (intOf i).toNat)
    case atStart => exact ⟨0, _, Nat.zero_le _, rfl, rfl, OwnRows.nil _ _, hw1⟩
    case round =>
      obtain ⟨k, vv, hk, rfl, rfl, hp, hb⟩ := hrel
      have hlt' : (rs.take k).length = k := by simp; omega
      obtain ⟨av, cv, hvv⟩ := hp.form
      rw [hlt'] at hvv
      subst hvv
      by_cases hlt : k < len
      · obtain ⟨b, off, rfl, h1, hbl, a1, l1, k1, c0, c1, c2, c3, c4, hrow1, hwf⟩ := IsRuls.at (IsRuls.below HR.out hb) (i := k) (by omega)
        have hl1 : l1 ≤ 1048576 := by
          have := (HOK.out k (by omega)).2.2.2.2.1
          have := hrow1.len.1
          omega
        have HW : Hid (∀ o, Calls Tryd.prog 35 #[.agg #[.int .i64 rs[k].ev, .int .i64 rs[k].at_, .int .i64 rs[k].fr, .int .i64 rs[k].to_, .slice a1 l1 k1]] (wr.alloc o) fun e w' => ∃ v n, e = .returned v ∧ w'.ownsRow (wr.alloc o).heap.size 9 1 v n (sv (evB :: ruleW rs[k])) ∧ Below (wr.alloc o).heap.size (wr.alloc o) w') := fun o => ruleWords rs[k] a1 l1 k1 (wr.alloc o) (hrow1.alloc o) ((HT.out.below hb).below ((Below.refl _ _).alloc (Nat.le_refl _) _)) hwf hl1
        have HTK : Hid (rs.take (k + 1) = rs.take k ++ [rs[k]]) := by show _ = _; rw [List.take_succ_eq_append_getElem (by omega)]
        have HP : Hid (OwnRows wr w.heap.size (.slice av k cv) (rs.take k)) := hp
        clear hp hrow1 hwf
        generalize rs[k] = rk at c0 c1 c2 c3 c4 HW HTK
        have hsz : w.heap.size ≤ wr.heap.size := hb.size
        go_wp2_with fail
        refine (HW.out _).mono ?_
        rintro e w2 ⟨u, nu, rfl, hown2, hw2⟩
        obtain ⟨vs, hvs, g1, g2⟩ := HP.out
        have hbw2 : Below wr.heap.size wr w2 := bcall ((Below.refl _ _).alloc (Nat.le_refl _) _) (by simp) hw2
        have hsz2 : w.heap.size ≤ w2.heap.size := Nat.le_trans hsz hbw2.size
        obtain ⟨au, cu, rfl⟩ : ∃ au cu, u = .slice au nu cu := by
          rcases hown2.2 with ⟨rfl, hn⟩ | ⟨g, cap, cur, rfl, _⟩
          · exact ⟨none, 0, by rw [hn]⟩
          · exact ⟨_, _, rfl⟩
        have hO1 := own_below (own_below g1 hbw2) ((Below.refl _ _).alloc (Nat.le_refl _) (.cells #[.slice au nu cu] 58))
        rw [hlt'] at hO1
        have HO1 : Hid _ := hO1
        have HO3 : Hid _ := own_less (own_below hown2 ((Below.refl _ _).alloc (Nat.le_refl _) (.cells #[.slice au nu cu] 58))) (show w.heap.size ≤ _ by simp; omega)
        have HG2 : Hid (∀ i (h : i < (rs.take k).length), ∃ n, (w2.alloc (.cells #[.slice au nu cu] 58)).ownsRow w.heap.size 9 1 (vs[i]'(by omega)) n (sv (evB :: ruleW (rs.take k)[i]))) := fun i hi => by
          obtain ⟨m, hm⟩ := g2 i hi
          exact ⟨m, own_below (own_below hm hbw2) ((Below.refl _ _).alloc (Nat.le_refl _) _)⟩
        have hnew : ∀ j x, [Value.slice au nu cu][j]? = some x → (w2.alloc (.cells #[.slice au nu cu] 58)).cell? ((⟨w2.heap.size, 0, none⟩ : Addr).add j) = some x := World.news_of_block (heap_alloc_new w2 (.cells #[.slice au nu cu] 58))
        have HNW : Hid _ := hnew
        clear hnew hO1 g1 g2 hown2
        go_wp2_with (at_builtin; refine wpList_append_own _ rfl _ _ 57 rfl w.heap.size 58 i0 (.slice none 0 0) 1 24 Tryd.underlying57 hi hz0 hz1 hz2 rfl (by decide) (.slice av k cv) k vs rfl HO1.out ⟨w2.heap.size, 0, none⟩ 1 1 _ rfl rfl HNW.out (by simp [Value.oneCell']) (by unfold maxLen; omega) (by omega) (by simp; omega) ?_; intro v' w5 hown5 hgrow5 _)
        go_roundw
        case rel =>
          refine ⟨k + 1, _, by omega, by go_num, rfl, ?_, ?_⟩
          · rw [HTK.out]
            exact OwnRows.push hvs (by rw [hlt']; exact HO1.out) HG2.out HO3.out (by rw [hlt']; exact hown5) hgrow5
          · exact ((hb.trans (hbw2.mono hsz)).alloc hsz2 _).trans ((Below.refl _ _).grown hgrow5 (by simp; omega) (fun j hj => (World.ownsRow.lt HO1.out j hj).1))
        case measure => simp [intOf]; omega
      · have he : rs.take k = rs := List.take_of_length_le (by omega)
        rw [he] at hp
        have HBO : Hid _ := boardOf _ rs _ hp.rows (by omega) HOK.out
        clear hp he
        go_wp2_with fail
        refine Calls.mono HBO.out ?_
        rintro e w2 ⟨rfl, hw2⟩
        go_wp2_with fail
        go_ret
        exact ⟨by rw [HF.out]; rfl, bcall hb hb.size hw2⟩
  · have hok : calOk rs = false := by simpa using hok
    rw [hok] at HK
    have HK : Hid _ := HK
    have HF : Hid (calW rs = ⟨#[]⟩) := by show _ = _; unfold calW; rw [hok]; rfl
    clear hok
    go_enter Tryd.func20, Tryd.ntmps20
    go_wp2_with fail
    refine Calls.mono HK.out ?_
    rintro e w1 ⟨rfl, hw1⟩
    go_wp2_with fail
    go_ret
    exact ⟨by rw [HF.out]; rfl, hw1⟩
end Go.Proofs.YtdanfekodmncmaaDoor
