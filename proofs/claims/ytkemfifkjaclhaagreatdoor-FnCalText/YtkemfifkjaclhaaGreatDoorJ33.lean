/- The program's own readRules. -/
import Derived.Test.YtkemfifkjaclhaaGreatDoorJ32
import Derived.BigRegionIn
import Derived.Stop.RegionWithIn
namespace Go.Proofs.YtkemfifkjaclhaaGreatDoor
set_option linter.unusedVariables false
set_option linter.unusedSimpArgs false
open Go.RowKit Go
attribute [local go_sem] Oper.semAt_some
namespace Cal

theorem info_CR : (Tryz.prog.info? 50).map (fun i => (i.zero, i.size, i.bytes)) = some (some (.agg #[.int .i64 0, .int .i64 0, .int .i64 0, .int .i64 0, .slice none 0 0]), 5, 56) := by kernel_rfl
/-- An error of calendars. -/
def errV (z : Int) : Value := .iface 40 (.agg #[.int .i64 z])
/-- What readRules answers. -/
def RulesPost (s : ByteArray) (w : World) (e : Ending) (w' : World) : Prop :=
  ∃ v er, e = .returned (.tuple #[v, er]) ∧ Below w.heap.size w w' ∧ ((er = .nilIface ∧ ∃ rs, IsCal s rs ∧ Gath w' w.heap.size v rs) ∨ ((∃ z, er = errV z) ∧ ∀ L, ¬ IsCal s L))

/-- A rule that no other one that is ok is written as. -/
def OwnT (r : Rul) : Prop := ∀ q, RuleOk q → rulT q = rulT r → q = r
theorem ends_nl (a : ByteArray) : Ends (a ++ nlB) := by
  have hz : (a ++ nlB).size = a.size + 1 := by rw [ByteArray.size_append]; rfl
  refine ⟨by omega, ?_⟩
  have hlt : (a ++ nlB).size - 1 < (a ++ nlB).data.toList.length := by rw [Array.length_toList]; show (a ++ nlB).size - 1 < (a ++ nlB).size; omega
  show (a ++ nlB).data.toList[(a ++ nlB).size - 1] = 10
  have hl : (a ++ nlB).data.toList = a.data.toList ++ [10] := by simp [nlB]
  have ha : a.data.toList.length = a.size := by rw [Array.length_toList]; rfl
  have : (a ++ nlB).data.toList[(a ++ nlB).size - 1]? = some 10 := by
    rw [hl, List.getElem?_append_right (by omega)]
    rw [show (a ++ nlB).size - 1 - a.data.toList.length = 0 by omega]; rfl
  rw [List.getElem?_eq_getElem hlt] at this
  exact Option.some.inj this
theorem cal_ends {s : ByteArray} {L : List Rul} (h : IsCal s L) : Ends s := by
  have hne : L ≠ [] := by
    rintro rfl
    have := h.1
    simp [calOk] at this
  obtain ⟨L', r, rfl⟩ : ∃ L' r, L = L' ++ [r] := ⟨L.dropLast, L.getLast hne, (List.dropLast_concat_getLast hne).symm⟩
  rw [← h.2.1, calT_snoc]
  exact ends_nl _
theorem rules_one {rs L : List Rul} (h : rs.map rulT = L.map rulT) (ho : ∀ r ∈ rs, OwnT r) (hL : ∀ r ∈ L, RuleOk r) : rs = L := by
  induction rs generalizing L with
  | nil => cases L with
    | nil => rfl
    | cons q L => simp at h
  | cons r rs ih =>
    cases L with
    | nil => simp at h
    | cons q L =>
      simp only [List.map_cons, List.cons.injEq] at h
      rw [ho r (by simp) q (hL q (by simp)) h.1.symm, ih h.2 (fun x hx => ho x (List.mem_cons_of_mem _ hx)) (fun x hx => hL x (List.mem_cons_of_mem _ hx))]

def LookV (er : Value) (rs : List Rul) : Prop := (er = .nilIface ∧ calOk rs = true) ∨ ∃ z, er = errV z ∧ calOk rs = false
theorem looked_val {e : Ending} {rs : List Rul} (h : Looked e rs) : ∃ er, e = .returned er ∧ LookV er rs := by
  rcases h with ⟨rfl, h⟩ | ⟨z, rfl, h⟩
  · exact ⟨_, rfl, .inl ⟨rfl, h⟩⟩
  · exact ⟨_, rfl, .inr ⟨z, rfl, h⟩⟩

theorem readRules_long (s : ByteArray) (w : World) (h : 800 < s.size) : Calls Tryz.prog 18 #[.string s] w fun e w' => RulesPost s w e w' := by
  have hd : decide ((800 : Int) < (s.size : Int)) = true := decide_eq_true (by omega)
  go_enter Tryz.func18, Tryz.ntmps18
  go_wp2_with fail
  refine bodyPost_ret (v := .tuple #[.slice none 0 0, errV 0]) ?_ rfl ?_
  · simp [results, Tryz.results18, go_sem, errV]
  · exact ⟨_, _, rfl, ((Below.refl _ _).alloc (Nat.le_refl _) _).alloc (by simp) _, .inr ⟨⟨0, rfl⟩, fun L hL => by have := hL.2.2; omega⟩⟩

set_option maxRecDepth 100000 in
set_option maxHeartbeats 4000000 in
theorem readRules_go (s : ByteArray) (w : World) (hs : s.size ≤ 800) (he : Errs w) (ht : Tab w) : Calls Tryz.prog 18 #[.string s] w fun e w' => RulesPost s w e w' := by
  have hd : decide ((800 : Int) < (s.size : Int)) = false := decide_eq_false (by omega)
  refine (callsIn_wide (n := 6)).1 ?_
  refine callsIn_of_wp_marks Tryz.func18 rfl trivial ?_ rfl
  simp only [Tryz.ntmps18, List.size_toArray, List.length_cons, List.length_nil, Nat.reduceAdd, Nat.reduceSub, Array.replicate_succ, Array.replicate_zero, List.push_toArray, List.append_toArray, List.nil_append, List.cons_append]
  gi_wp2_with fail
  refine ⟨trivial, (callsIn_wide.2 (textLines s _)).mono ?_⟩
  rintro e w1 ⟨rfl, rfl⟩
  gi_wp2_with fail
  have c0 : Boxed (w.alloc (.cells #[.slice none 0 0] 24)) w.heap.size 24 (.slice none 0 0) := Boxed.new w _ _
  have c1 := Boxed.new (w.alloc (.cells #[.slice none 0 0] 24)) 42 .nilIface
  have c2 := Boxed.new ((w.alloc (.cells #[.slice none 0 0] 24)).alloc (.cells #[.nilIface] 42)) 24 (.slice none 0 0)
  have c3 := Boxed.new (((w.alloc (.cells #[.slice none 0 0] 24)).alloc (.cells #[.nilIface] 42)).alloc (.cells #[.slice none 0 0] 24)) 9 (.string s)
  have hB0 : Below w.heap.size w ((((w.alloc (.cells #[.slice none 0 0] 24)).alloc (.cells #[.nilIface] 42)).alloc (.cells #[.slice none 0 0] 24)).alloc (.cells #[.string s] 9)) := ((((Below.refl _ w).alloc (Nat.le_refl _) _).alloc (by simp) _).alloc (by simp; omega) _).alloc (by simp; omega) _
  have hc0 := ((c0.alloc (.cells #[.nilIface] 42)).alloc (.cells #[.slice none 0 0] 24)).alloc (.cells #[.string s] 9)
  have hc1 := (c1.alloc (.cells #[.slice none 0 0] 24)).alloc (.cells #[.string s] 9)
  have hc2 := c2.alloc (.cells #[.string s] 9)
  simp only [World.size_alloc] at hc0 hc1 hc2 c3 ⊢
  clear c0 c1 c2
  have hsz : ((((w.alloc (.cells #[.slice none 0 0] 24)).alloc (.cells #[.nilIface] 42)).alloc (.cells #[.slice none 0 0] 24)).alloc (.cells #[.string s] 9)).heap.size = w.heap.size + 1 + 1 + 1 + 1 := by simp
  generalize (((w.alloc (.cells #[.slice none 0 0] 24)).alloc (.cells #[.nilIface] 42)).alloc (.cells #[.slice none 0 0] 24)).alloc (.cells #[.string s] 9) = W0 at hc0 hc1 hc2 c3 hB0 hsz ⊢
  refine range_own rfl (by omega) (gf := 49) (lb := #[.pointer (some ⟨w.heap.size + 1 + 1 + 1, 0, none⟩)]) rfl trivial (enters_of Tryz.func49 (by kernel_rfl) rfl)
    (textLines1 s (by omega) _ (w.heap.size + 1 + 1 + 1 + 1) (w.heap.size + 1 + 1 + 1) (by omega))
    (fun W hb => ⟨by have := hb.size; omega, (hb.cell (p := ⟨w.heap.size + 1 + 1 + 1, 0, none⟩) (by simp only; omega)).trans c3.cell⟩)
    Kept.trans (fun W l r r' _ h => Kept.put W l r r' h) (fun A B h => Did.keeps A B h) (fun _ => rfl)
    (fun pre W => Boxed W w.heap.size 24 (.slice none 0 0) ∧ Boxed W (w.heap.size + 1) 42 .nilIface ∧ (∃ v rs, Boxed W (w.heap.size + 1 + 1) 24 v ∧ rs.map rulT = pre ∧ (∀ r ∈ rs, OwnT r) ∧ Gath W w.heap.size v rs) ∧ Below w.heap.size w W)
    (fun c W => c = .ret ∧ Boxed W w.heap.size 24 (.slice none 0 0) ∧ (∃ z, Boxed W (w.heap.size + 1) 42 (errV z)) ∧ (∀ L, ¬ IsCal s L) ∧ Below w.heap.size w W)
    ?hI ?hIx ?hId ?hIxd ?h0
    (fun x => { tmps := #[.string s, undef, .pointer (some ⟨w.heap.size, 0, none⟩), .pointer (some ⟨w.heap.size + 1, 0, none⟩), .pointer (some ⟨w.heap.size + 1 + 1, 0, none⟩), .string x, undef, undef, .string s, .int .i64 s.size, .bool false, undef, undef, .string s, .func (.func 49) #[] #[.pointer (some ⟨w.heap.size + 1 + 1 + 1, 0, none⟩)], .string x, undef, undef, undef, undef, undef, undef, undef, undef, undef, undef, undef, undef, undef, undef, undef, undef, undef, undef, undef, undef, undef, undef, undef, undef, undef, undef, undef], defers := [] }) ?assign ?body ?done ?stop
  case hI =>
    rintro pre X Y row ⟨h1, h2, ⟨v, es, h3, h4, h4b, h5⟩, h6⟩ hg hr
    have nb : ∀ {k : Nat} {t : TypeId} {u : Value}, Boxed X k t u → some k ≠ row := fun hb e => by
      obtain ⟨_, o, ho, hc⟩ := hr _ e.symm
      rw [hb] at ho; cases ho; cases hc
    refine ⟨h1.kept hg (nb h1), h2.kept hg (nb h2), ⟨v, es, h3.kept hg (nb h3), h4, h4b, h5.same (SameT.grown hg fun r e c fz => ?_)⟩, h6.trans ((Below.refl _ X).grown hg h6.size (fun k hk => by have := (hr k hk).1; omega))⟩
    obtain ⟨_, o, ho, hc⟩ := hr r e
    rw [ho]
    exact ⟨(fun hh => by cases hh; cases hc), (fun hh => by cases hh; cases hc)⟩
  case hIx =>
    rintro c _ X Y row ⟨h0, h1, ⟨z, h2⟩, h3, h6⟩ hg hr
    have nb : ∀ {k : Nat} {t : TypeId} {u : Value}, Boxed X k t u → some k ≠ row := fun hb e => by
      obtain ⟨_, o, ho, hc⟩ := hr _ e.symm
      rw [hb] at ho; cases ho; cases hc
    exact ⟨h0, h1.kept hg (nb h1), ⟨z, h2.kept hg (nb h2)⟩, h3, h6.trans ((Below.refl _ X).grown hg h6.size (fun k hk => by have := (hr k hk).1; omega))⟩
  case hId =>
    rintro pre X Y hX ⟨h1, h2, ⟨v, es, h3, h4, h4b, h5⟩, h6⟩ hd
    exact ⟨boxed_low h1 (by omega) hd.low, boxed_low h2 (by omega) hd.low, ⟨v, es, boxed_low h3 (by omega) hd.low, h4, h4b, h5.same (sameT_did hd)⟩, h6.trans (hd.below.mono (by omega))⟩
  case hIxd =>
    rintro c X Y hX ⟨h0, h1, ⟨z, h2⟩, h3, h6⟩ hd
    exact ⟨h0, boxed_low h1 (by omega) hd.low, ⟨z, boxed_low h2 (by omega) hd.low⟩, h3, h6.trans (hd.below.mono (by omega))⟩
  case h0 => exact ⟨hc0, hc1, ⟨_, [], hc2, rfl, (fun r hr => by cases hr), Gath.nil _ _⟩, hB0⟩
  case assign =>
    intro l x W K hK
    gi_wp2
    exact hK
  case body =>
    rintro l pre x W hl ⟨h1, h2, ⟨v, rs, h3, h4, h4b, h5⟩, h6⟩ hpre
    have hxm : x ∈ linesOf s := hpre.subset (by simp)
    have hxs : x.size ≤ 1000000 := by have := linesFrom_size s s.size 0 [] x hxm; simp at this; omega
    have hmany : (linesOf s).length ≤ 800 := Nat.le_trans (linesFrom_many s s.size 0 []) hs
    have hlen : rs.length ≤ 800 := by
      have e1 : rs.length = pre.length := by rw [← h4]; simp
      have := hpre.length_le; simp at this; omega
    gi_wp2_with fail
    refine ⟨trivial, (CallsIn.inRound l (callsIn_wide.2 (readRule x W hxs (he.below h6) (ht.below h6)))).mono ?_⟩
    rintro e W2 ⟨r, ra, rc, ok, rfl, hb2, hown2, hok, hall⟩
    have B1 := boxed_low h1 h1.lt hb2.block
    have B2 := boxed_low h2 h2.lt hb2.block
    have B3 := boxed_low h3 h3.lt hb2.block
    have HH5 : Hid (Gath W w.heap.size v rs) := h5
    have hST := SameT.below hb2
    have hB2 : Below w.heap.size w W2 := h6.trans (hb2.mono h6.size)
    obtain ⟨av, cv, rfl, _⟩ := gath_ruls h5
    clear h5
    cases ok with
    | false =>
      have hbad : ∀ L, ¬ IsCal s L := fun L hL => by
        rw [cal_linesOf hL] at hxm
        obtain ⟨q, hq, hqx⟩ := List.mem_map.1 hxm
        have := (hall q (cal_all hL.1 q hq) hqx).2
        cases this
      have hd : (rs.length : Int) + 1 ≤ 801 := by omega
      clear hall hok hown2
      have k1 := fun o => (B1.alloc o).cell
      have k2 := fun o => (B1.alloc o).frozen
      have k3 := fun o => (B2.alloc o).cell
      have k4 := fun o => (B2.alloc o).frozen
      have k5 := fun o => (B3.alloc o).cell
      gi_wp2_with fail
      gi_region
      all_goals
        gi_wp2_with fail
        refine ⟨?_, rfl, ?_, ⟨IntKind.i64.wrap ((rs.length : Int) + 1), ?_⟩, hbad, ?_⟩
        · have kf : KeepsFrom W0.heap.size W (((W2.alloc (.cells #[.int .i64 r.ev, .int .i64 r.at_, .int .i64 r.fr, .int .i64 r.to_, .slice ra r.but.length rc] 50)).setCell ⟨w.heap.size, 0, none⟩ (.slice none 0 0)).setCell ⟨w.heap.size + 1, 0, none⟩ (errV (IntKind.i64.wrap ((rs.length : Int) + 1)))) := ((keepsFrom_below hb2).trans (keepsFrom_below ((Below.refl _ _).alloc (Nat.le_refl _) _))).trans ((keepsFrom_set (B1.alloc _) _).trans (keepsFrom_set ((B2.alloc _).other (B' := w.heap.size) (by omega) _) _))
          exact ⟨kf.size, kf.same⟩
        · exact ((B1.alloc _).set _).other (B' := w.heap.size + 1) (by omega) _
        · exact ((B2.alloc _).other (B' := w.heap.size) (by omega) _).set _
        · exact (((hB2.alloc hB2.size _).setCell (p := ⟨w.heap.size, 0, none⟩) (Nat.le_refl _) _).setCell (p := ⟨w.heap.size + 1, 0, none⟩) (Nat.le_succ _) _).drew
    | true =>
      obtain ⟨hrx, hwf⟩ := hok rfl
      obtain ⟨vs, hv, g1w, g2w, g3⟩ := HH5.out
      have hfar : ∀ i (hi : i < vs.length) b, vs[i].ownBlock = some b → b < W.heap.size := fun i hi b hb => ((g2w i (by omega)).1.lt b hb).2
      have g1 := own_rows g1w hST.rows
      have g2 := fun i hi => (⟨own_rows (g2w i hi).1 hST.nums, (g2w i hi).2⟩ : _ ∧ _)
      have k3 := fun o => (B3.alloc o).cell
      have k4 := fun o => (B3.alloc o).frozen
      obtain ⟨i0, hi, hz0, hz1, hz2⟩ := info_parts info_CR
      have hown1 : ((W2.alloc (.cells #[.int .i64 r.ev, .int .i64 r.at_, .int .i64 r.fr, .int .i64 r.to_, .slice ra r.but.length rc] 50)).alloc (.cells #[.int .i64 r.ev, .int .i64 r.at_, .int .i64 r.fr, .int .i64 r.to_, .slice ra r.but.length rc] 50)).ownsRow w.heap.size 50 5 (.slice av rs.length cv) rs.length (flatR rs vs) := own_alloc' (own_alloc' g1 _) _
      have hn5 := news5 (W := W2) (o := (.cells #[.int .i64 r.ev, .int .i64 r.at_, .int .i64 r.fr, .int .i64 r.to_, .slice ra r.but.length rc] 50)) (v0 := .int .i64 r.ev) (v1 := .int .i64 r.at_) (v2 := .int .i64 r.fr) (v3 := .int .i64 r.to_) (v4 := .slice ra r.but.length rc) (t := 50)
      have hsz5 : w.heap.size ≤ ((W2.alloc (.cells #[.int .i64 r.ev, .int .i64 r.at_, .int .i64 r.fr, .int .i64 r.to_, .slice ra r.but.length rc] 50)).alloc (.cells #[.int .i64 r.ev, .int .i64 r.at_, .int .i64 r.fr, .int .i64 r.to_, .slice ra r.but.length rc] 50)).heap.size := by have := hB2.size; simp; omega
      have B3a := (B3.alloc (.cells #[.int .i64 r.ev, .int .i64 r.at_, .int .i64 r.fr, .int .i64 r.to_, .slice ra r.but.length rc] 50)).alloc (.cells #[.int .i64 r.ev, .int .i64 r.at_, .int .i64 r.fr, .int .i64 r.to_, .slice ra r.but.length rc] 50)
      gi_wp2_with (gi_at_builtin; refine wpListIn_append_own _ rfl _ _ 24 rfl w.heap.size 50 i0 (.agg #[.int .i64 0, .int .i64 0, .int .i64 0, .int .i64 0, .slice none 0 0]) 5 56 Tryz.underlying24 hi hz0 hz1 hz2 rfl (by decide) (.slice av rs.length cv) rs.length (flatR rs vs) rfl hown1 ⟨W2.heap.size + 1, 0, none⟩ 1 1 [.int .i64 r.ev, .int .i64 r.at_, .int .i64 r.fr, .int .i64 r.to_, .slice ra r.but.length rc] rfl rfl hn5 (by simp [Value.oneCell']) (by unfold maxLen; omega) (by omega) hsz5 ?_; intro v' w5 hown5 hgrow5 _; obtain ⟨g', cap', rfl⟩ := ownsRow_succ hown5; have b5 := Boxed.kept B3a hgrow5 (Boxed.not_row B3a (by decide) hown1); have l5 := b5.cell; have l6 := b5.frozen; have HOWN5 : Hid _ := hown5; have HG5 : Hid _ := hgrow5; clear hown5 hgrow5)
      have hg5 := HG5.out
      have hown5 := HOWN5.out
      refine ⟨?_, ?_, ?_, ?_, ⟨_, rs ++ [r], b5.set _, by rw [List.map_append, h4, List.map_cons, hrx]; rfl, ?_, ?_⟩, ?_⟩
      · exact (((keepsFrom_below hb2).trans (keepsFrom_below (((Below.refl _ _).alloc (Nat.le_refl _) _).alloc (by simp) _))).trans (keepsFrom_grown hown1 hg5)).trans (keepsFrom_set b5 _)
      · exact (((Kept.below hb2).trans (Kept.below (((Below.refl _ _).alloc (Nat.le_refl _) _).alloc (by simp) _))).trans (kept_grown hown1 hg5)).trans (kept_set b5 _)
      · exact (Boxed.kept ((B1.alloc _).alloc _) hg5 (Boxed.not_row ((B1.alloc _).alloc _) (by decide) hown1)).other (by omega) _
      · exact (Boxed.kept ((B2.alloc _).alloc _) hg5 (Boxed.not_row ((B2.alloc _).alloc _) (by decide) hown1)).other (by omega) _
      · intro y hy
        rcases List.mem_append.1 hy with hy | hy
        · exact h4b y hy
        · simp only [List.mem_singleton] at hy; subst hy; exact fun q hq hqr => (hall q hq (hqr.trans hrx)).1
      · refine Gath.same (gath_push (base' := W.heap.size) hv hown1 (fun i hi => ⟨own_alloc' (own_alloc' (g2 i hi).1 _) _, (g2 i hi).2⟩) g3 (own_alloc' (own_alloc' hown2 _) _) h6.size ?_ hfar hown5 hg5) (sameT_set b5 (by decide) (by decide) _)
        exact ⟨hwf.1, hwf.2.1, hwf.2.2.1, hwf.2.2.2.1, hwf.2.2.2.2⟩
      · exact (((hB2.alloc hB2.size _).alloc (by have := hB2.size; simp; omega) _).trans ((Below.refl _ _).grown hg5 (by have := hB2.size; simp; omega) (fun k hk => (hown1.lt k hk).1))).setCell (p := ⟨w.heap.size + 1 + 1, 0, none⟩) (by simp only; omega) _
  case done =>
    rintro D W hD ⟨h1, h2, ⟨v, rs, h3, h4, h4b, h5⟩, h6⟩ hK
    obtain ⟨av, cv, rfl, hruls⟩ := gath_ruls h5
    have hlen : rs.length ≤ 800 := by
      have e1 : rs.length = (linesOf s).length := by rw [← h4]; simp
      have := linesFrom_many s s.size 0 []
      unfold linesOf at e1; omega
    have k1 := h1.cell
    have k2 := h1.frozen
    have k3 := h2.cell
    have k4 := h2.frozen
    have k5 := h3.cell
    have HG : Hid (Gath W w.heap.size (.slice av rs.length cv) rs) := h5
    have HR : Hid (IsRuls W av rs.length cv rs) := hruls
    have H4 : Hid (rs.map rulT = linesOf s) := h4
    have H4B : Hid (∀ r ∈ rs, OwnT r) := h4b
    clear h5 hruls h4 h4b hc0 hc1 hc2 c3 he ht
    gi_wp2_with fail
    refine ⟨trivial, (callsIn_wide.2 (hasNl s (by omega) W)).mono ?_⟩
    rintro e W1 ⟨⟨b, rfl, hb⟩, hw⟩
    subst hw
    have HBE : Hid (b = true ↔ Ends s) := hb
    clear hb
    cases b with
    | false =>
      have hbad : Hid (∀ L, ¬ IsCal s L) := fun L hL => by have := HBE.out.2 (cal_ends hL); cases this
      clear HBE
      gi_wp2_with fail
      gi_region
      all_goals
        gi_wp2_with fail
        have hK2 : (((W1.setCell ⟨w.heap.size, 0, none⟩ (.slice none 0 0)).setCell ⟨w.heap.size + 1, 0, none⟩ (errV ((rs.length : Int) + 1))).drew).heap[D]? = some (.deferred (some [])) := (KeepsOthers.setCell (W1.setCell ⟨w.heap.size, 0, none⟩ (.slice none 0 0)) ⟨w.heap.size + 1, 0, none⟩ (errV ((rs.length : Int) + 1))).same D _ ((KeepsOthers.setCell W1 ⟨w.heap.size, 0, none⟩ (.slice none 0 0)).same D _ hK rfl) rfl
        have r1 : Boxed (((W1.setCell ⟨w.heap.size, 0, none⟩ (.slice none 0 0)).setCell ⟨w.heap.size + 1, 0, none⟩ (errV ((rs.length : Int) + 1))).drew) w.heap.size 24 (.slice none 0 0) := (h1.set (.slice none 0 0)).other (B' := w.heap.size + 1) (by omega) _
        have r2 : Boxed (((W1.setCell ⟨w.heap.size, 0, none⟩ (.slice none 0 0)).setCell ⟨w.heap.size + 1, 0, none⟩ (errV ((rs.length : Int) + 1))).drew) (w.heap.size + 1) 42 (errV ((rs.length : Int) + 1)) := (h2.other (B' := w.heap.size) (by omega) _).set _
        have hbb : Below w.heap.size w (((W1.setCell ⟨w.heap.size, 0, none⟩ (.slice none 0 0)).setCell ⟨w.heap.size + 1, 0, none⟩ (errV ((rs.length : Int) + 1))).drew) := ((h6.setCell (p := ⟨w.heap.size, 0, none⟩) (Nat.le_refl _) _).setCell (p := ⟨w.heap.size + 1, 0, none⟩) (Nat.le_succ _) _).drew
        refine ⟨by simp, .inl ⟨_, _, rfl, run_takeDeferred hK2, ?_⟩⟩
        have q1 := (r1.kept (grownBy_putObj' _ D (.deferred none)) (fun e => by cases e; rw [r1] at hK2; cases hK2)).cell
        have q2 := (r2.kept (grownBy_putObj' _ D (.deferred none)) (fun e => by cases e; rw [r2] at hK2; cases hK2)).cell
        refine ⟨.tuple #[.slice none 0 0, errV ((rs.length : Int) + 1)], ?_, _, _, rfl, ?_, .inr ⟨⟨_, rfl⟩, hbad.out⟩⟩
        · unfold errV at q1 q2 ⊢
          simp [results, Tryz.results18, go_sem, q1, q2]
        · exact hbb.trans ((Below.refl _ _).grown (grownBy_putObj' _ D (.deferred none)) (by have := hbb.size; omega) (fun k hk => by cases hk; omega))
    | true =>
      have hEnds : Hid (Ends s) := HBE.out.1 rfl
      clear HBE
      by_cases hc : calOk rs = true
      · have HC : Hid (calOk rs = true) := hc
        have HLK : Hid (∀ w', Below W1.heap.size W1 w' → Calls Tryz.prog 29 #[.slice av rs.length cv] w' fun e w'' => e = .returned .nilIface ∧ Below w'.heap.size w' w'') := fun w' hb => (lookedAtRules av rs.length cv rs w' (HR.out.below hb)).mono fun e w'' ⟨h, h2⟩ => by
          rcases h with ⟨h, _⟩ | ⟨z, _, h⟩
          · exact ⟨h, h2⟩
          · rw [hc] at h; cases h
        clear hc
        gi_wp2_with fail
        gi_region_with (refine ⟨trivial, (callsIn_wide.2 (HLK.out W1.drew (Below.refl _ _).drew)).mono ?_⟩; rintro e W2 ⟨hlk, hw2⟩; subst hlk; have b1 : Boxed W2 w.heap.size 24 (.slice none 0 0) := boxed_low h1 h1.lt hw2.block; have b2 : Boxed W2 (w.heap.size + 1) 42 .nilIface := boxed_low h2 h2.lt hw2.block; have m1 := b1.cell; have m2 := b1.frozen; have m3 := b2.cell; have m4 := b2.frozen; have b3 : Boxed W2 (w.heap.size + 1 + 1) 24 (.slice av rs.length cv) := boxed_low h3 h3.lt hw2.block; have m5 := b3.cell)
        all_goals
          gi_wp2_with fail
          have hK1 : W2.heap[D]? = some (.deferred (some [])) := (hw2.block D (Array.getElem?_eq_some_iff.1 hK).1).trans hK
          have hBB : Below w.heap.size w W2 := h6.trans (Below.mono (B := W1.drew.heap.size) (⟨hw2.os, hw2.tape, hw2.output, hw2.size, hw2.block⟩ : Below W1.heap.size W1 W2) h6.size)
          have hK2 := (KeepsOthers.setCell (W2.setCell ⟨w.heap.size, 0, none⟩ (.slice av rs.length cv)) ⟨w.heap.size + 1, 0, none⟩ .nilIface).same D _ ((KeepsOthers.setCell W2 ⟨w.heap.size, 0, none⟩ (.slice av rs.length cv)).same D _ hK1 rfl) rfl
          have r1 := (b1.set (.slice av rs.length cv)).other (B' := w.heap.size + 1) (by omega) .nilIface
          have r2 := (b2.other (B' := w.heap.size) (by omega) (.slice av rs.length cv)).set .nilIface
          have hbb := (hBB.setCell (p := ⟨w.heap.size, 0, none⟩) (Nat.le_refl _) (.slice av rs.length cv)).setCell (p := ⟨w.heap.size + 1, 0, none⟩) (Nat.le_succ _) .nilIface
          have hG : Gath (((W2.setCell ⟨w.heap.size, 0, none⟩ (.slice av rs.length cv)).setCell ⟨w.heap.size + 1, 0, none⟩ .nilIface).putObj D (.deferred none)) w.heap.size (.slice av rs.length cv) rs := (((HG.out.same (SameT.below (w' := W2) ⟨hw2.os, hw2.tape, hw2.output, hw2.size, hw2.block⟩)).same (sameT_set b1 (by decide) (by decide) _)).same (sameT_set (b2.other (B' := w.heap.size) (by omega) _) (by decide) (by decide) _)).same (sameT_put hK2 rfl)
          refine ⟨by simp, .inl ⟨_, _, rfl, run_takeDeferred hK2, ?_⟩⟩
          have q1 := (r1.kept (grownBy_putObj' _ D (.deferred none)) (fun e => by cases e; rw [r1] at hK2; cases hK2)).cell
          have q2 := (r2.kept (grownBy_putObj' _ D (.deferred none)) (fun e => by cases e; rw [r2] at hK2; cases hK2)).cell
          refine ⟨.tuple #[.slice av rs.length cv, .nilIface], ?_, _, _, rfl, ?_, ?_⟩
          · simp [results, Tryz.results18, go_sem, q1, q2]
          · exact hbb.trans ((Below.refl _ _).grown (grownBy_putObj' _ D (.deferred none)) (by have := hbb.size; omega) (fun k hk => by cases hk; omega))
          · obtain ⟨hp, hlast⟩ := hEnds.out
            exact .inl ⟨rfl, rs, ⟨HC.out, lines_are hp hlast H4.out.symm (cal_all HC.out), hs⟩, hG⟩
      · have hc : calOk rs = false := by simpa using hc
        have HC : Hid (calOk rs = false) := hc
        have HLK : Hid (∀ w', Below W1.heap.size W1 w' → Calls Tryz.prog 29 #[.slice av rs.length cv] w' fun e w'' => (∃ z : Int, e = .returned (.iface 40 (.agg #[.int .i64 z]))) ∧ Below w'.heap.size w' w'') := fun w' hb => (lookedAtRules av rs.length cv rs w' (HR.out.below hb)).mono fun e w'' ⟨h, h2⟩ => by
          rcases h with ⟨_, h⟩ | ⟨z, h, _⟩
          · rw [hc] at h; cases h
          · exact ⟨⟨z, h⟩, h2⟩
        clear hc
        gi_wp2_with fail
        gi_region_with (refine ⟨trivial, (callsIn_wide.2 (HLK.out W1.drew (Below.refl _ _).drew)).mono ?_⟩; rintro e W2 ⟨hlk, hw2⟩; obtain ⟨z, rfl⟩ := hlk; have b1 : Boxed W2 w.heap.size 24 (.slice none 0 0) := boxed_low h1 h1.lt hw2.block; have b2 : Boxed W2 (w.heap.size + 1) 42 .nilIface := boxed_low h2 h2.lt hw2.block; have m1 := b1.cell; have m2 := b1.frozen; have m3 := b2.cell; have m4 := b2.frozen; have b3 : Boxed W2 (w.heap.size + 1 + 1) 24 (.slice av rs.length cv) := boxed_low h3 h3.lt hw2.block; have m5 := b3.cell)
        all_goals
          gi_wp2_with fail
          have hK1 : W2.heap[D]? = some (.deferred (some [])) := (hw2.block D (Array.getElem?_eq_some_iff.1 hK).1).trans hK
          have hBB : Below w.heap.size w W2 := h6.trans (Below.mono (B := W1.drew.heap.size) (⟨hw2.os, hw2.tape, hw2.output, hw2.size, hw2.block⟩ : Below W1.heap.size W1 W2) h6.size)
          have hK2 := (KeepsOthers.setCell (W2.setCell ⟨w.heap.size, 0, none⟩ (.slice av rs.length cv)) ⟨w.heap.size + 1, 0, none⟩ (.iface 40 (.agg #[.int .i64 z]))).same D _ ((KeepsOthers.setCell W2 ⟨w.heap.size, 0, none⟩ (.slice av rs.length cv)).same D _ hK1 rfl) rfl
          have r1 := (b1.set (.slice av rs.length cv)).other (B' := w.heap.size + 1) (by omega) (.iface 40 (.agg #[.int .i64 z]))
          have r2 := (b2.other (B' := w.heap.size) (by omega) (.slice av rs.length cv)).set (.iface 40 (.agg #[.int .i64 z]))
          have hbb := (hBB.setCell (p := ⟨w.heap.size, 0, none⟩) (Nat.le_refl _) (.slice av rs.length cv)).setCell (p := ⟨w.heap.size + 1, 0, none⟩) (Nat.le_succ _) (.iface 40 (.agg #[.int .i64 z]))
          have hG : Gath (((W2.setCell ⟨w.heap.size, 0, none⟩ (.slice av rs.length cv)).setCell ⟨w.heap.size + 1, 0, none⟩ (.iface 40 (.agg #[.int .i64 z]))).putObj D (.deferred none)) w.heap.size (.slice av rs.length cv) rs := (((HG.out.same (SameT.below (w' := W2) ⟨hw2.os, hw2.tape, hw2.output, hw2.size, hw2.block⟩)).same (sameT_set b1 (by decide) (by decide) _)).same (sameT_set (b2.other (B' := w.heap.size) (by omega) _) (by decide) (by decide) _)).same (sameT_put hK2 rfl)
          refine ⟨by simp, .inl ⟨_, _, rfl, run_takeDeferred hK2, ?_⟩⟩
          have q1 := (r1.kept (grownBy_putObj' _ D (.deferred none)) (fun e => by cases e; rw [r1] at hK2; cases hK2)).cell
          have q2 := (r2.kept (grownBy_putObj' _ D (.deferred none)) (fun e => by cases e; rw [r2] at hK2; cases hK2)).cell
          refine ⟨.tuple #[.slice av rs.length cv, (.iface 40 (.agg #[.int .i64 z]))], ?_, _, _, rfl, ?_, ?_⟩
          · simp [results, Tryz.results18, go_sem, q1, q2]
          · exact hbb.trans ((Below.refl _ _).grown (grownBy_putObj' _ D (.deferred none)) (by have := hbb.size; omega) (fun k hk => by cases hk; omega))
          · refine .inr ⟨⟨z, rfl⟩, fun L hL => ?_⟩
            have e := rules_one (H4.out.trans (cal_linesOf hL)) H4B.out (cal_all hL.1)
            have hc := HC.out
            rw [e, hL.1] at hc; cases hc
  case stop =>
    rintro D c W hD ⟨rfl, h1, ⟨z, h2⟩, h3, h6⟩ hK
    gi_wp2_with fail
    refine ⟨by simp, .inl ⟨_, _, rfl, run_takeDeferred hK, ?_⟩⟩
    have q1 := (h1.kept (grownBy_putObj' _ D (.deferred none)) (fun e => by cases e; rw [h1] at hK; cases hK)).cell
    have q2 := (h2.kept (grownBy_putObj' _ D (.deferred none)) (fun e => by cases e; rw [h2] at hK; cases hK)).cell
    refine ⟨.tuple #[.slice none 0 0, errV z], ?_, _, _, rfl, ?_, .inr ⟨⟨z, rfl⟩, h3⟩⟩
    · simp [results, Tryz.results18, go_sem, q1, q2]
    · exact h6.trans ((Below.refl _ _).grown (grownBy_putObj' _ D (.deferred none)) h6.size (fun k hk => by cases hk; omega))
end Cal
end Go.Proofs.YtkemfifkjaclhaaGreatDoor
