/- The program's own calendars: what tells the ticks above one, made. -/
import Derived.Test.YtkemfifkjaclhaaDoorCI7
import Derived.Test.YtkemfifkjaclhaaDoorCI3
import Derived.Deep.AppendLies
namespace Go.Proofs.YtkemfifkjaclhaaDoor
set_option linter.unusedVariables false
set_option linter.unusedSimpArgs false
open Go.RowKit Go

theorem infoP : (Tryd.prog.info? 100).map (fun i => (i.zero, i.size, i.bytes)) = some (some .nilFunc, 1, 8) := by kernel_rfl

theorem merged (pa : Option Addr) (pn pc : Nat) (t : Int) (w : World) : Calls Tryd.prog 34 #[.slice pa pn pc, .int .i64 t] w fun e w' => e = .returned (.func (.func 47) #[] #[.pointer (some ⟨w.heap.size, 0, none⟩), .pointer (some ⟨w.heap.size + 1, 0, none⟩)]) ∧ w' = (w.alloc (.cells #[.slice pa pn pc] 58)).alloc (.cells #[.int .i64 t] 3) := by
  go_enter Tryd.func34, Tryd.ntmps34
  go_wp2
  go_ret
  exact ⟨rfl, rfl⟩

theorem Parts.push {w0 w w' : World} {M : Nat} {v v' : Value} {ps : List Rul} {r : Rul} {k : Nat} {a : Option Addr} {l c : Nat} {us : List Value} (hu : us.length = ps.length) (h1 : w.ownsRow M 100 1 v ps.length us)
    (h2 : ∀ i (h : i < ps.length), PartAt w0 w M (us[i]'(by omega)) ps[i]) (hk : M ≤ k) (hbox : RulBox w k r (.slice a l c)) (hrow : IsRow .i64 w0 a l c r.but)
    (hown : w'.ownsRow M 100 1 v' (ps.length + 1) (us ++ [fnOf k])) (hg : w.grownBy w' v.ownBlock) : Parts w0 w' M v' (ps ++ [r]) := by
  have box : ∀ (j : Nat) (q : Rul) (s : Value), RulBox w j q s → RulBox w' j q s := fun j q s hb => by
    refine (hg.block j (Array.getElem?_eq_some_iff.1 hb).1 (fun e => ?_)).trans hb
    rcases h1.2 with ⟨rfl, _⟩ | ⟨g, cap, cur, rfl, _, hgg, _⟩
    · simp [Value.ownBlock] at e
    · simp [Value.ownBlock] at e
      subst e
      rw [show w.heap[j]? = _ from hb] at hgg
      simp at hgg
  refine ⟨us ++ [fnOf k], by simp [hu], by simpa using hown, fun i hi => ?_⟩
  by_cases h : i < ps.length
  · obtain ⟨kk, aa, ll, cc, e1, e2, e3, e4⟩ := h2 i h
    rw [List.getElem_append_left (by omega : i < us.length), List.getElem_append_left h]
    exact ⟨kk, aa, ll, cc, e1, e2, box _ _ _ e3, e4⟩
  · have hie : i = ps.length := by simp at hi; omega
    subst hie
    rw [List.getElem_append_right (by omega : us.length ≤ ps.length), List.getElem_append_right (Nat.le_refl _)]
    simp only [Nat.sub_self, List.getElem_cons_zero, hu]
    exact ⟨k, a, l, c, rfl, hk, box _ _ _ hbox, hrow⟩

/-- What tells the ticks of ps above t, in memory: M is where its blocks begin. -/
def Teller (w0 W : World) (M p1 p2 : Nat) (v : Value) (t : Int) (ps : List Rul) : Prop :=
  Below w0.heap.size w0 W ∧ M ≤ p1 ∧ M ≤ p2 ∧ W.heap[p1]? = some (.cells #[v] 58 (0, 0)) ∧ W.heap[p2]? = some (.cells #[.int .i64 t] 3 (0, 0)) ∧ Parts w0 W M v ps
theorem Teller.keep {w0 W W' : World} {M p1 p2 : Nat} {v : Value} {t : Int} {ps : List Rul} (h : Teller w0 W M p1 p2 v t ps) (hb : Below w0.heap.size W W') (hk : KeptUp M W W') : Teller w0 W' M p1 p2 v t ps :=
  ⟨h.1.trans hb, h.2.1, h.2.2.1, hk _ _ _ _ h.2.1 h.2.2.2.1, hk _ _ _ _ h.2.2.1 h.2.2.2.2.1, h.2.2.2.2.2.keep hk⟩
/-- The rules that count: none, if they are not ok. -/
def okRules (rs : List Rul) : List Rul := if calOk rs = true then rs else []
theorem okRules_ok (rs : List Rul) : ∀ i (hi : i < (okRules rs).length), RuleOk (okRules rs)[i] := by
  unfold okRules
  split
  · rename_i h; exact calOk_rules h
  · intro i hi; simp at hi
theorem okRules_due (rs : List Rul) (u : Int) : OfTo (okRules rs) (okRules rs).length u ↔ calDue rs u = true := by
  unfold okRules
  split
  · rename_i h; exact ofTo_due h u
  · rename_i h
    constructor
    · rintro ⟨i, hi, _⟩; simp at hi
    · intro hd; simp [calDue, h] at hd

def DuePost (w0 w : World) (t : Int) (rs : List Rul) (e : Ending) (w' : World) : Prop :=
  Below w.heap.size w w' ∧ ∃ p1 p2 v, e = .returned (.func (.func 47) #[] #[.pointer (some ⟨p1, 0, none⟩), .pointer (some ⟨p2, 0, none⟩)]) ∧ Teller w0 w' w.heap.size p1 p2 v t (okRules rs)

set_option maxRecDepth 4000 in
set_option maxHeartbeats 2000000 in
theorem dueAbove (w0 : World) (a : Option Addr) (len cap : Nat) (rs : List Rul) (t : Int) (w : World) (hr0 : IsRuls w0 a len cap rs) (hb0 : Below w0.heap.size w0 w) (hg : ErrT w) :
    Calls Tryd.prog 19 #[.slice a len cap, .int .i64 t] w fun e w' => DuePost w0 w t rs e w' := by
  have hr := hr0.below hb0
  obtain ⟨hz, hm⟩ := IsRecs.len hr
  unfold maxLen at hm
  have HK := implCalOk a len cap rs w hr hg
  have HR : Hid (IsRuls w a len cap rs) := hr
  have HR0 : Hid (IsRuls w0 a len cap rs) := hr0
  have HB0 : Hid (Below w0.heap.size w0 w) := hb0
  clear hr hg hr0 hb0
  have fin : ∀ (v : Value) (W : World), Below w.heap.size w W → Parts w0 W w.heap.size v (okRules rs) → DuePost w0 w t rs (.returned (.func (.func 47) #[] #[.pointer (some ⟨W.heap.size, 0, none⟩), .pointer (some ⟨W.heap.size + 1, 0, none⟩)])) ((W.alloc (.cells #[v] 58)).alloc (.cells #[.int .i64 t] 3)) := fun v W hb hp => by
    have hb2 : Below W.heap.size W ((W.alloc (.cells #[v] 58)).alloc (.cells #[.int .i64 t] 3)) := ((Below.refl _ _).alloc (Nat.le_refl _) _).alloc (by simp) _
    refine ⟨hb.trans (hb2.mono hb.size), _, _, v, rfl, HB0.out.trans ((hb.trans (hb2.mono hb.size)).mono HB0.out.size), hb.size, Nat.le_succ_of_le hb.size, ?_, ?_, hp.keep (KeptUp.below hb2)⟩
    · exact (Below.heap_alloc _ _ _ (by simp)).trans (heap_alloc_new W _)
    · have := heap_alloc_new (W.alloc (.cells #[v] 58)) (.cells #[.int .i64 t] 3)
      rwa [World.size_alloc] at this
  have FIN : Hid _ := fin
  clear fin
  have HME : Hid (∀ pa pn pc w, Calls Tryd.prog 34 #[.slice pa pn pc, .int .i64 t] w fun e w' => e = .returned (.func (.func 47) #[] #[.pointer (some ⟨w.heap.size, 0, none⟩), .pointer (some ⟨w.heap.size + 1, 0, none⟩)]) ∧ w' = (w.alloc (.cells #[.slice pa pn pc] 58)).alloc (.cells #[.int .i64 t] 3)) := fun pa pn pc w => merged pa pn pc t w
  by_cases hok : calOk rs = true
  · rw [hok] at HK
    have HK : Hid _ := HK
    have hlen4 : len ≤ 4 := by
      have h := hok
      simp only [calOk, Bool.and_eq_true, decide_eq_true_eq] at h
      omega
    have HOR : Hid (okRules rs = rs) := by show _ = _; unfold okRules; rw [if_pos hok]
    clear hok
    obtain ⟨i0, hi, hz0, hz1, hz2⟩ := info_parts infoP
    go_enter Tryd.func19, Tryd.ntmps19
    go_wp2_with fail
    refine Calls.mono HK.out ?_
    rintro e w1 ⟨rfl, hw1⟩
    go_wp2_with fail
    go_loopw [5, 12] (fun v i wr => ∃ (k : Nat) (vv : Value), k ≤ len ∧ i = .int .i64 k ∧ v = vv ∧ Parts w0 wr w.heap.size vv (rs.take k) ∧ Below w.heap.size w wr) (fun _ i _ => len - (intOf i).toNat)
    case atStart => exact ⟨0, _, Nat.zero_le _, rfl, rfl, Parts.nil _ _ _, hw1⟩
    case round =>
      obtain ⟨k, vv, hk, rfl, rfl, hp, hb⟩ := hrel
      have hlt' : (rs.take k).length = k := by simp; omega
      obtain ⟨av, cv, hvv, _⟩ := hp.form
      rw [hlt'] at hvv
      subst hvv
      by_cases hlt : k < len
      · obtain ⟨b, off, rfl, h1, hbl, a1, l1, k1, c0, c1, c2, c3, c4, hrow1, _⟩ := IsRuls.at (IsRuls.below HR.out hb) (i := k) (by omega)
        obtain ⟨b', off', eb, _, _, a2, l2, k2, _, _, _, _, d4, hrow2, _⟩ := IsRuls.at HR0.out (i := k) (by omega)
        cases eb
        have hsame : Value.slice a1 l1 k1 = .slice a2 l2 k2 := by
          have := ((HB0.out.trans (hb.mono HB0.out.size)).cell (p := ⟨b, off + k * 5 + 4, none⟩) (World.block_lt_of_cell? _ _ d4)).trans d4
          rw [c4] at this; exact Option.some.inj this
        cases hsame
        obtain ⟨us, hu, g1, g2⟩ := hp
        have HTK : Hid (rs.take (k + 1) = rs.take k ++ [rs[k]]) := by show _ = _; rw [List.take_succ_eq_append_getElem (by omega)]
        have HROW2 : Hid _ := hrow2
        clear hrow1 hrow2 d4
        generalize rs[k] = rk at c0 c1 c2 c3 c4 HTK HROW2
        have HG2 : Hid (∀ i (h : i < (rs.take k).length), PartAt w0 wr w.heap.size (us[i]'(by omega)) (rs.take k)[i]) := g2
        clear g2
        have hsz : w.heap.size ≤ wr.heap.size := hb.size
        have hown0 : ((wr.alloc (.cells #[.int .i64 rk.ev, .int .i64 rk.at_, .int .i64 rk.fr, .int .i64 rk.to_, .slice a1 l1 k1] 43)).alloc (.cells #[fnOf wr.heap.size] 100)).ownsRow w.heap.size 100 1 (.slice av k cv) k us := by
          have h5 := own_keep g1 (KeptUp.below (((Below.refl _ _).alloc (Nat.le_refl _) (.cells #[.int .i64 rk.ev, .int .i64 rk.at_, .int .i64 rk.fr, .int .i64 rk.to_, .slice a1 l1 k1] 43)).alloc (by simp) (.cells #[fnOf wr.heap.size] 100)))
          rw [hlt'] at h5; exact h5
        have hnew : ∀ j u, [fnOf wr.heap.size][j]? = some u → ((wr.alloc (.cells #[.int .i64 rk.ev, .int .i64 rk.at_, .int .i64 rk.fr, .int .i64 rk.to_, .slice a1 l1 k1] 43)).alloc (.cells #[fnOf wr.heap.size] 100)).cell? ((⟨wr.heap.size + 1, 0, none⟩ : Addr).add j) = some u := by
          have hbk := heap_alloc_new (wr.alloc (.cells #[.int .i64 rk.ev, .int .i64 rk.at_, .int .i64 rk.fr, .int .i64 rk.to_, .slice a1 l1 k1] 43)) (.cells #[fnOf wr.heap.size] 100)
          rw [World.size_alloc] at hbk
          exact World.news_of_block hbk
        have HO : Hid _ := hown0
        have HNW : Hid _ := hnew
        clear hown0 hnew g1
        unfold fnOf at HO HNW
        go_wp2_with (at_builtin; refine wpList_append_own _ rfl _ _ 58 rfl w.heap.size 100 i0 .nilFunc 1 8 Tryd.underlying58 hi hz0 hz1 hz2 rfl (by decide) (.slice av k cv) k us rfl HO.out ⟨wr.heap.size + 1, 0, none⟩ 1 1 _ rfl rfl HNW.out (by simp [Value.oneCell']) (by unfold maxLen; omega) (by omega) (by simp; omega) ?_; intro v' w5 hown5 hgrow5 _)
        go_roundw
        case rel =>
          refine ⟨k + 1, _, by omega, by go_num, rfl, ?_, ?_⟩
          · rw [HTK.out]
            refine Parts.push (w := (wr.alloc (.cells #[.int .i64 rk.ev, .int .i64 rk.at_, .int .i64 rk.fr, .int .i64 rk.to_, .slice a1 l1 k1] 43)).alloc (.cells #[fnOf wr.heap.size] 100)) (k := wr.heap.size) hu (by rw [hlt']; exact HO.out) (fun i hi => (HG2.out i hi).keep (KeptUp.below (((Below.refl _ _).alloc (Nat.le_refl _) _).alloc (by simp) _))) hsz ?_ HROW2.out (by rw [hlt']; exact hown5) hgrow5
            exact (Below.heap_alloc _ _ _ (by simp)).trans (heap_alloc_new wr _)
          · exact ((hb.alloc hsz _).alloc (by simp; omega) _).trans ((Below.refl _ _).grown hgrow5 (by simp; omega) (fun j hj => (World.ownsRow.lt HO.out j hj).1))
        case measure => simp [intOf]; omega
      · have he : rs.take k = rs := List.take_of_length_le (by omega)
        rw [he, ← HOR.out] at hp
        have HP : Hid _ := hp
        clear hp he
        go_wp2_with fail
        refine (HME.out _ _ _ _).mono ?_
        rintro e w2 ⟨rfl, rfl⟩
        go_wp2_with fail
        go_ret
        exact FIN.out _ _ hb HP.out
  · have hok : calOk rs = false := by simpa using hok
    rw [hok] at HK
    have HK : Hid _ := HK
    have HOR : Hid (okRules rs = []) := by show _ = _; unfold okRules; rw [hok]; rfl
    clear hok
    go_enter Tryd.func19, Tryd.ntmps19
    go_wp2_with fail
    refine Calls.mono HK.out ?_
    rintro e w1 ⟨rfl, hw1⟩
    go_wp2_with fail
    refine (HME.out _ _ _ _).mono ?_
    rintro e w2 ⟨rfl, rfl⟩
    go_wp2_with fail
    go_ret
    exact FIN.out _ _ hw1 (by rw [HOR.out]; exact Parts.nil _ _ _)
end Go.Proofs.YtkemfifkjaclhaaDoor
