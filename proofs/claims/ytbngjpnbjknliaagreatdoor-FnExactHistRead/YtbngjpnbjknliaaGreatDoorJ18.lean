/- Plain: what is written is read as it. -/
import Derived.Test.YtbngjpnbjknliaaGreatDoorJ17
namespace Go.Proofs.YtbngjpnbjknliaaGreatDoor
set_option linter.unusedVariables false
set_option linter.unusedSimpArgs false
open Go.RowKit Go
attribute [local go_sem] Oper.semAt_some

theorem linesFrom_size (s : ByteArray) : ∀ (f pos : Nat) (acc : List UInt8), ∀ x ∈ linesFrom s f pos acc, x.size ≤ acc.length + 4 * f := by
  intro f
  induction f with
  | zero => intro pos acc x hx; simp [linesFrom] at hx
  | succ f ih =>
    intro pos acc x hx
    rw [linesFrom] at hx
    split at hx
    · split at hx
      · rcases List.mem_cons.1 hx with rfl | hx
        · show acc.toArray.size ≤ _; simp; try omega
        · have := ih _ _ x hx; simp at this; omega
      · have := ih _ _ x hx
        have hl4 := Lib.runeCells_le ((Utf8.decode s pos).1 : Int)
        rw [Lib.runeCells_length] at hl4
        simp at this; omega
    · cases hx
theorem linesFrom_many (s : ByteArray) : ∀ (f pos : Nat) (acc : List UInt8), (linesFrom s f pos acc).length ≤ f := by
  intro f
  induction f with
  | zero => intro pos acc; simp [linesFrom]
  | succ f ih =>
    intro pos acc
    rw [linesFrom]
    split
    · split
      · simp; exact ih _ _
      · have := ih (pos + (Utf8.decode s pos).2) (acc ++ Lib.encodeRune (Utf8.decode s pos).1); omega
    · simp
theorem info_HE : (Tryz.prog.info? 32).map (fun i => (i.zero, i.size, i.bytes)) = some (some (.agg #[.int .i64 0, .int .i64 0, .string ByteArray.empty, .string ByteArray.empty, .slice none 0 0]), 5, 72) := by kernel_rfl
theorem own_sliceN {w : World} {base : Nat} {e : TypeId} {size : Nat} {v : Value} {n : Nat} {xs : List Value} (h : w.ownsRow base e size v n xs) : ∃ a c, v = .slice a n c := by
  rcases h.2 with ⟨rfl, rfl⟩ | ⟨g, cap, cur, rfl, _⟩
  · exact ⟨none, 0, rfl⟩
  · exact ⟨_, _, rfl⟩
theorem keepsFrom_below {B : Nat} {W W' : World} (h : Below W.heap.size W W') : KeepsFrom B W W' := ⟨h.size, fun k o _ hk _ => (h.block k (Array.getElem?_eq_some_iff.1 hk).1).trans hk⟩
theorem keepsFrom_set {B : Nat} {W : World} {k : Nat} {t : TypeId} {v : Value} (h : Boxed W k t v) (u : Value) : KeepsFrom B W (W.setCell ⟨k, 0, none⟩ u) := by
  refine ⟨by simp, fun j o _ hj ho => ?_⟩
  rw [Below.heap_setCell W ⟨k, 0, none⟩ u j ?_]; · exact hj
  rintro rfl
  rw [show W.heap[j]? = _ from h] at hj; cases hj; cases ho

theorem news5 {W : World} {o : Obj} {v0 v1 v2 v3 v4 : Value} {t : TypeId} : ∀ j u, [v0, v1, v2, v3, v4][j]? = some u → ((W.alloc o).alloc (.cells #[v0, v1, v2, v3, v4] t)).cell? ((⟨W.heap.size + 1, 0, none⟩ : Addr).add j) = some u := by
  have hb := heap_alloc_new (W.alloc o) (.cells #[v0, v1, v2, v3, v4] t)
  rw [World.size_alloc] at hb
  exact World.news_of_block hb
theorem keepsFrom_grown {B : Nat} {W W' : World} {base : Nat} {e : TypeId} {size : Nat} {v : Value} {n : Nat} {xs : List Value} (h : W.ownsRow base e size v n xs) (hg : W.grownBy W' v.ownBlock) : KeepsFrom B W W' := by
  refine ⟨hg.size, fun k o _ hk ho => (hg.block k (Array.getElem?_eq_some_iff.1 hk).1 (fun e => ?_)).trans hk⟩
  rcases h.2 with ⟨rfl, _⟩ | ⟨g, cap, cur, rfl, _, hgg, _⟩
  · simp [Value.ownBlock] at e
  · simp [Value.ownBlock] at e
    subst e
    rw [hk] at hgg; cases hgg; cases ho
theorem kept_grown {W W' : World} {base : Nat} {size : Nat} {v : Value} {n : Nat} {xs : List Value} (h : W.ownsRow base 32 size v n xs) (hg : W.grownBy W' v.ownBlock) : Kept W W' := by
  refine ⟨hg.size, fun k o hk ho => (hg.block k (Array.getElem?_eq_some_iff.1 hk).1 (fun e => ?_)).trans hk⟩
  rcases h.2 with ⟨rfl, _⟩ | ⟨g, cap, cur, rfl, _, hgg, _⟩
  · simp [Value.ownBlock] at e
  · simp [Value.ownBlock] at e
    subst e
    rw [hk] at hgg; cases hgg
    rcases ho with ho | ⟨_, _, ho⟩ | ⟨_, _, ho⟩
    · cases ho
    · simp at ho
    · simp at ho
theorem kept_set {W : World} {k : Nat} {v : Value} (h : Boxed W k 22 v) (u : Value) : Kept W (W.setCell ⟨k, 0, none⟩ u) := by
  refine ⟨by simp, fun j o hj ho => ?_⟩
  rw [Below.heap_setCell W ⟨k, 0, none⟩ u j ?_]; · exact hj
  rintro rfl
  rw [show W.heap[j]? = _ from h] at hj; cases hj
  rcases ho with ho | ⟨_, _, ho⟩ | ⟨_, _, ho⟩
  · cases ho
  · simp at ho
  · simp at ho
theorem sameT_set {W : World} {k : Nat} {t : TypeId} {v : Value} (h : Boxed W k t v) (ht1 : t ≠ 32) (ht2 : t ≠ 3) (u : Value) : SameT W (W.setCell ⟨k, 0, none⟩ u) := by
  refine ⟨by simp, fun j c fz hj => ?_, fun j c fz hj => ?_⟩
  · rw [Below.heap_setCell W ⟨k, 0, none⟩ u j ?_]; · exact hj
    rintro rfl
    rw [show W.heap[j]? = _ from h] at hj; cases hj; exact ht1 rfl
  · rw [Below.heap_setCell W ⟨k, 0, none⟩ u j ?_]; · exact hj
    rintro rfl
    rw [show W.heap[j]? = _ from h] at hj; cases hj; exact ht2 rfl
theorem sameT_put {W : World} {D : Nat} {o o' : Obj} (h : W.heap[D]? = some o) (ho : o.isCells = false) : SameT W (W.putObj D o') :=
  SameT.grown (grownBy_putObj' W D o') (fun r e c fz => by cases e; rw [h]; exact ⟨(fun hh => by cases hh; cases ho), (fun hh => by cases hh; cases ho)⟩)

/-- What HistRead answers: the entries that its lines are read as, if that is how they are written. -/
def ReadsPost (s : ByteArray) (w : World) (e : Ending) (w' : World) : Prop :=
  ∃ v ok, e = .returned (.tuple #[v, .bool ok]) ∧ Below w.heap.size w w' ∧
    (ok = true → s.size ≤ 16000 ∧ ∃ es, Gath w' w.heap.size v es ∧ readAll (linesOf s) = some es ∧ histW es = s) ∧
    (ok = false → v = .slice none 0 0 ∧ (16000 < s.size ∨ readAll (linesOf s) = none ∨ ∃ es, readAll (linesOf s) = some es ∧ histW es ≠ s))

theorem histRead_long (s : ByteArray) (w : World) (h : 16000 < s.size) : Calls Tryz.prog 5 #[.string s] w fun e w' => ReadsPost s w e w' := by
  have hd : decide ((16000 : Int) < (s.size : Int)) = true := decide_eq_true (by omega)
  go_enter Tryz.func5, Tryz.ntmps5
  go_wp2_with fail
  refine bodyPost_ret (v := .tuple #[.slice none 0 0, .bool false]) ?_ rfl ?_
  · simp [results, Tryz.results5, go_sem]
  · exact ⟨_, false, rfl, ((Below.refl _ _).alloc (Nat.le_refl _) _).alloc (by simp) _, (fun h => by cases h), fun _ => ⟨rfl, .inl h⟩⟩

set_option maxRecDepth 100000 in
set_option maxHeartbeats 4000000 in
theorem histRead_go (s : ByteArray) (w : World) (hs : s.size ≤ 16000) (he : Errs w) (ht : Tab w) : Calls Tryz.prog 5 #[.string s] w fun e w' => ReadsPost s w e w' := by
  have hd : decide ((16000 : Int) < (s.size : Int)) = false := decide_eq_false (by omega)
  refine (callsIn_wide (n := 6)).1 ?_
  refine callsIn_of_wp_marks Tryz.func5 rfl trivial ?_ rfl
  simp only [Tryz.ntmps5, List.size_toArray, List.length_cons, List.length_nil, Nat.reduceAdd, Nat.reduceSub, Array.replicate_succ, Array.replicate_zero, List.push_toArray, List.append_toArray, List.nil_append, List.cons_append]
  gi_wp2_with fail
  refine ⟨trivial, (callsIn_wide.2 (textLines s _)).mono ?_⟩
  rintro e w1 ⟨rfl, rfl⟩
  gi_wp2_with fail
  have c0 : Boxed (w.alloc (.cells #[.slice none 0 0] 22)) w.heap.size 22 (.slice none 0 0) := Boxed.new w _ _
  have c1 := Boxed.new (w.alloc (.cells #[.slice none 0 0] 22)) 4 (.bool false)
  have c2 := Boxed.new ((w.alloc (.cells #[.slice none 0 0] 22)).alloc (.cells #[.bool false] 4)) 22 (.slice none 0 0)
  have c3 := Boxed.new (((w.alloc (.cells #[.slice none 0 0] 22)).alloc (.cells #[.bool false] 4)).alloc (.cells #[.slice none 0 0] 22)) 9 (.string s)
  have hB0 : Below w.heap.size w ((((w.alloc (.cells #[.slice none 0 0] 22)).alloc (.cells #[.bool false] 4)).alloc (.cells #[.slice none 0 0] 22)).alloc (.cells #[.string s] 9)) := ((((Below.refl _ w).alloc (Nat.le_refl _) _).alloc (by simp) _).alloc (by simp; omega) _).alloc (by simp; omega) _
  have hc0 := ((c0.alloc (.cells #[.bool false] 4)).alloc (.cells #[.slice none 0 0] 22)).alloc (.cells #[.string s] 9)
  have hc1 := (c1.alloc (.cells #[.slice none 0 0] 22)).alloc (.cells #[.string s] 9)
  have hc2 := c2.alloc (.cells #[.string s] 9)
  simp only [World.size_alloc] at hc0 hc1 hc2 c3 ⊢
  clear c0 c1 c2
  have hsz : ((((w.alloc (.cells #[.slice none 0 0] 22)).alloc (.cells #[.bool false] 4)).alloc (.cells #[.slice none 0 0] 22)).alloc (.cells #[.string s] 9)).heap.size = w.heap.size + 1 + 1 + 1 + 1 := by simp
  generalize (((w.alloc (.cells #[.slice none 0 0] 22)).alloc (.cells #[.bool false] 4)).alloc (.cells #[.slice none 0 0] 22)).alloc (.cells #[.string s] 9) = W0 at hc0 hc1 hc2 c3 hB0 hsz ⊢
  refine range_own rfl (by omega) (gf := 23) (lb := #[.pointer (some ⟨w.heap.size + 1 + 1 + 1, 0, none⟩)]) rfl trivial (enters_of Tryz.func23 (by kernel_rfl) rfl)
    (textLines1 s (by omega) _ (w.heap.size + 1 + 1 + 1 + 1) (w.heap.size + 1 + 1 + 1) (by omega))
    (fun W hb => ⟨by have := hb.size; omega, (hb.cell (p := ⟨w.heap.size + 1 + 1 + 1, 0, none⟩) (by simp only; omega)).trans c3.cell⟩)
    Kept.trans Kept.put (fun A B h => Did.keeps A B h) (fun _ => rfl)
    (fun pre W => Boxed W w.heap.size 22 (.slice none 0 0) ∧ Boxed W (w.heap.size + 1) 4 (.bool false) ∧ (∃ v es, Boxed W (w.heap.size + 1 + 1) 22 v ∧ readAll pre = some es ∧ Gath W w.heap.size v es) ∧ Below w.heap.size w W)
    (fun c W => c = .ret ∧ Boxed W w.heap.size 22 (.slice none 0 0) ∧ Boxed W (w.heap.size + 1) 4 (.bool false) ∧ readAll (linesOf s) = none ∧ Below w.heap.size w W)
    ?hI ?hIx ?hId ?hIxd ?h0
    (fun x => { tmps := #[.string s, undef, .pointer (some ⟨w.heap.size, 0, none⟩), .pointer (some ⟨w.heap.size + 1, 0, none⟩), .pointer (some ⟨w.heap.size + 1 + 1, 0, none⟩), .string x, undef, undef, .string s, .int .i64 s.size, .bool false, .string s, .func (.func 23) #[] #[.pointer (some ⟨w.heap.size + 1 + 1 + 1, 0, none⟩)], .string x, undef, undef, undef, undef, undef, undef, undef, undef, undef, undef, undef, undef, undef, undef, undef, undef, undef], defers := [] }) ?assign ?body ?done ?stop
  case hI =>
    rintro pre X Y row ⟨h1, h2, ⟨v, es, h3, h4, h5⟩, h6⟩ hg hr
    have nb : ∀ {k : Nat} {t : TypeId} {u : Value}, Boxed X k t u → some k ≠ row := fun hb e => by
      obtain ⟨_, o, ho, hc⟩ := hr _ e.symm
      rw [hb] at ho; cases ho; cases hc
    refine ⟨h1.kept hg (nb h1), h2.kept hg (nb h2), ⟨v, es, h3.kept hg (nb h3), h4, h5.same (SameT.grown hg fun r e c fz => ?_)⟩, h6.trans ((Below.refl _ X).grown hg h6.size (fun k hk => by have := (hr k hk).1; omega))⟩
    obtain ⟨_, o, ho, hc⟩ := hr r e
    rw [ho]
    exact ⟨(fun hh => by cases hh; cases hc), (fun hh => by cases hh; cases hc)⟩
  case hIx =>
    rintro c _ X Y row ⟨h0, h1, h2, h3, h6⟩ hg hr
    have nb : ∀ {k : Nat} {t : TypeId} {u : Value}, Boxed X k t u → some k ≠ row := fun hb e => by
      obtain ⟨_, o, ho, hc⟩ := hr _ e.symm
      rw [hb] at ho; cases ho; cases hc
    exact ⟨h0, h1.kept hg (nb h1), h2.kept hg (nb h2), h3, h6.trans ((Below.refl _ X).grown hg h6.size (fun k hk => by have := (hr k hk).1; omega))⟩
  case hId =>
    rintro pre X Y hX ⟨h1, h2, ⟨v, es, h3, h4, h5⟩, h6⟩ hd
    exact ⟨boxed_low h1 (by omega) hd.low, boxed_low h2 (by omega) hd.low, ⟨v, es, boxed_low h3 (by omega) hd.low, h4, h5.same (SameT.did hd)⟩, h6.trans (hd.below.mono (by omega))⟩
  case hIxd =>
    rintro c X Y hX ⟨h0, h1, h2, h3, h6⟩ hd
    exact ⟨h0, boxed_low h1 (by omega) hd.low, boxed_low h2 (by omega) hd.low, h3, h6.trans (hd.below.mono (by omega))⟩
  case h0 => exact ⟨hc0, hc1, ⟨_, [], hc2, rfl, Gath.nil _ _⟩, hB0⟩
  case assign =>
    intro l x W K hK
    gi_wp2
    exact hK
  case body =>
    rintro l pre x W hl ⟨h1, h2, ⟨v, es, h3, h4, h5⟩, h6⟩ hpre
    have hxm : x ∈ linesOf s := hpre.subset (by simp)
    have hxs : x.size ≤ 16777216 := by have := linesFrom_size s s.size 0 [] x hxm; simp at this; omega
    have hmany : (linesOf s).length ≤ 16000 := Nat.le_trans (linesFrom_many s s.size 0 []) hs
    have hlen : es.length ≤ 16000 := by
      rw [readAll_len h4]; have := hpre.length_le; simp at this; omega
    gi_wp2_with fail
    refine ⟨trivial, (CallsIn.inRound l (callsIn_wide.2 (splitSp x W hxs))).mono ?_⟩
    rintro e W1 ⟨vw, ps, rfl, hrow, hcut, hb1⟩
    have hps : ps = wordsB x := bys_inj (hcut.trans (wordsB_bys x).symm)
    obtain ⟨y, rs, hyr⟩ : ∃ y rs, ps = y :: rs := by
      cases ps with
      | nil => exact absurd hcut.symm (cutL_ne _ _)
      | cons y rs => exact ⟨y, rs, rfl⟩
    have hzz : ∀ z ∈ ps, z.size ≤ 16777216 := fun z hz => by
      have hm : z.data.toList ∈ cutL 32 x.data.toList := by rw [← hcut]; exact List.mem_map.2 ⟨z, hz, rfl⟩
      have := cutL_lenB 32 x.data.toList _ hm
      have e : z.data.toList.length = z.size := by simp
      have e2 : x.data.toList.length = x.size := by simp
      omega
    have hmn : ps.length ≤ 16777217 := by
      have := cutL_manyB 32 x.data.toList
      rw [← hcut] at this
      simp [bys] at this
      have e2 : x.data.size = x.size := rfl
      omega
    subst hyr
    have hrd : readLine x = readP (y :: rs) := by unfold readLine; rw [← hps]
    gi_wp2_with fail
    refine ⟨trivial, (CallsIn.inRound l (callsIn_wide.2 (readEntry vw y rs W1 hrow ((he.below h6).below hb1) hzz (by simp at hmn; omega)))).mono ?_⟩
    rintro e W2 ⟨rk, ri, ry, rn, ra, rl, rc, ok, rfl, hb2, hok, hno⟩
    have hb12 : Below W.heap.size W W2 := hb1.trans (hb2.mono hb1.size)
    have B1 := boxed_low h1 h1.lt hb12.block
    have B2 := boxed_low h2 h2.lt hb12.block
    have B3 := boxed_low h3 h3.lt hb12.block
    have HH5 : Hid (Gath W w.heap.size v es) := h5
    have hST := SameT.below hb12
    have hB2 : Below w.heap.size w W2 := h6.trans (hb12.mono h6.size)
    clear h5 hcut hrow hzz hmn
    cases ok with
    | false =>
      have hbad : readAll (linesOf s) = none := readAll_bad hxm (by rw [hrd]; exact hno rfl)
      have k1 := fun o => (B1.alloc o).cell
      have k2 := fun o => (B1.alloc o).frozen
      have k3 := fun o => (B2.alloc o).cell
      have k4 := fun o => (B2.alloc o).frozen
      gi_wp2_with fail
      refine ⟨?_, rfl, ?_, ?_, hbad, ?_⟩
      · exact ((keepsFrom_below hb12).trans (keepsFrom_below ((Below.refl _ _).alloc (Nat.le_refl _) _))).trans ((keepsFrom_set (B1.alloc _) _).trans (keepsFrom_set ((B2.alloc _).other (by omega) _) _))
      · exact ((B1.alloc _).set _).other (by omega) _
      · exact ((B2.alloc _).other (by omega) _).set _
      · exact ((hB2.alloc hB2.size _).setCell (p := ⟨w.heap.size, 0, none⟩) (Nat.le_refl _) _).setCell (p := ⟨w.heap.size + 1, 0, none⟩) (Nat.le_succ _) _
    | true =>
      obtain ⟨nums, hr, hown4, hgood⟩ := hok rfl
      obtain ⟨vs, hv, g1w, g2w, g3⟩ := HH5.out
      have hfar : ∀ i (hi : i < vs.length) b, vs[i].ownBlock = some b → b < W1.heap.size := fun i hi b hb => by
        have := ((g2w i (by omega)).1.lt b hb).2
        have := hb1.size
        omega
      have g1 := own_rows g1w hST.rows
      have g2 := fun i hi => (⟨own_rows (g2w i hi).1 hST.nums, (g2w i hi).2⟩ : _ ∧ _)
      obtain ⟨av, cv, rfl⟩ := own_sliceN g1
      have k3 := fun o => (B3.alloc o).cell
      have k4 := fun o => (B3.alloc o).frozen
      obtain ⟨i0, hi, hz0, hz1, hz2⟩ := info_parts info_HE
      have hown1 : ((W2.alloc (.cells #[.int .i64 rk, .int .i64 ri, .string ry, .string rn, .slice ra rl rc] 32)).alloc (.cells #[.int .i64 rk, .int .i64 ri, .string ry, .string rn, .slice ra rl rc] 32)).ownsRow w.heap.size 32 5 (.slice av es.length cv) es.length (flatE es vs) := own_alloc' (own_alloc' g1 _) _
      have hn5 := news5 (W := W2) (o := (.cells #[.int .i64 rk, .int .i64 ri, .string ry, .string rn, .slice ra rl rc] 32)) (v0 := .int .i64 rk) (v1 := .int .i64 ri) (v2 := .string ry) (v3 := .string rn) (v4 := .slice ra rl rc) (t := 32)
      have hsz5 : w.heap.size ≤ ((W2.alloc (.cells #[.int .i64 rk, .int .i64 ri, .string ry, .string rn, .slice ra rl rc] 32)).alloc (.cells #[.int .i64 rk, .int .i64 ri, .string ry, .string rn, .slice ra rl rc] 32)).heap.size := by have := hB2.size; simp; omega
      have B3a := (B3.alloc (.cells #[.int .i64 rk, .int .i64 ri, .string ry, .string rn, .slice ra rl rc] 32)).alloc (.cells #[.int .i64 rk, .int .i64 ri, .string ry, .string rn, .slice ra rl rc] 32)
      gi_wp2_with (gi_at_builtin; refine wpListIn_append_own _ rfl _ _ 22 rfl w.heap.size 32 i0 (.agg #[.int .i64 0, .int .i64 0, .string ByteArray.empty, .string ByteArray.empty, .slice none 0 0]) 5 72 Tryz.underlying22 hi hz0 hz1 hz2 rfl (by decide) (.slice av es.length cv) es.length (flatE es vs) rfl hown1 ⟨W2.heap.size + 1, 0, none⟩ 1 1 [.int .i64 rk, .int .i64 ri, .string ry, .string rn, .slice ra rl rc] rfl rfl hn5 (by simp [Value.oneCell']) (by unfold maxLen; omega) (by omega) hsz5 ?_; intro v' w5 hown5 hgrow5 _; obtain ⟨g', cap', rfl⟩ := ownsRow_succ hown5; have b5 := Boxed.kept B3a hgrow5 (Boxed.not_row B3a (by decide) hown1); have l5 := b5.cell; have l6 := b5.frozen; have HOWN5 : Hid _ := hown5; have HG5 : Hid _ := hgrow5; clear hown5 hgrow5)
      have hg5 := HG5.out
      have hown5 := HOWN5.out
      refine ⟨?_, ?_, ?_, ?_, ⟨_, es ++ [⟨rk, ri, ry, rn, nums⟩], b5.set _, readAll_snoc (by rw [hrd]; exact hr) h4, ?_⟩, ?_⟩
      · exact (((keepsFrom_below hb12).trans (keepsFrom_below (((Below.refl _ _).alloc (Nat.le_refl _) _).alloc (by simp) _))).trans (keepsFrom_grown hown1 hg5)).trans (keepsFrom_set b5 _)
      · exact (((Kept.below hb12).trans (Kept.below (((Below.refl _ _).alloc (Nat.le_refl _) _).alloc (by simp) _))).trans (kept_grown hown1 hg5)).trans (kept_set b5 _)
      · exact (Boxed.kept ((B1.alloc _).alloc _) hg5 (Boxed.not_row ((B1.alloc _).alloc _) (by decide) hown1)).other (by omega) _
      · exact (Boxed.kept ((B2.alloc _).alloc _) hg5 (Boxed.not_row ((B2.alloc _).alloc _) (by decide) hown1)).other (by omega) _
      · refine Gath.same (gath_push (base' := W1.heap.size) hv hown1 (fun i hi => ⟨own_alloc' (own_alloc' (g2 i hi).1 _) _, (g2 i hi).2⟩) g3 (own_alloc' (own_alloc' hown4 _) _) (by have := h6.size; have := hb1.size; omega) ?_ hfar hown5 hg5) (sameT_set b5 (by decide) (by decide) _)
        exact ⟨hgood.1, hgood.2.1, hgood.2.2.1, hgood.2.2.2.1, hgood.2.2.2.2⟩
      · exact (((hB2.alloc hB2.size _).alloc (by have := hB2.size; simp; omega) _).trans ((Below.refl _ _).grown hg5 (by have := hB2.size; simp; omega) (fun k hk => (hown1.lt k hk).1))).setCell (p := ⟨w.heap.size + 1 + 1, 0, none⟩) (by simp only; omega) _
  case done =>
    rintro D W hD ⟨h1, h2, ⟨v, es, h3, h4, h5⟩, h6⟩ hK
    obtain ⟨av, cv, rfl, hents⟩ := gath_ents h5
    have k1 := h1.cell
    have k2 := h1.frozen
    have k3 := h2.cell
    have k4 := h2.frozen
    have k5 := h3.cell
    gi_wp2_with fail
    refine ⟨trivial, (callsIn_wide.2 (implHistWrite av es.length cv es W hents (ht.below h6))).mono ?_⟩
    rintro e W1 ⟨rfl, hb1⟩
    have b1 := boxed_low h1 h1.lt hb1.block
    have b2 := boxed_low h2 h2.lt hb1.block
    have b3 := boxed_low h3 h3.lt hb1.block
    have hK1 : W1.heap[D]? = some (.deferred (some [])) := (hb1.block D (Array.getElem?_eq_some_iff.1 hK).1).trans hK
    have l1 := b1.cell
    have l2 := b1.frozen
    have l3 := b2.cell
    have l4 := b2.frozen
    have l5 := b3.cell
    have hB1 : Below w.heap.size w W1 := h6.trans (hb1.mono h6.size)
    have hG1 : Gath W1 w.heap.size (.slice av es.length cv) es := h5.same (SameT.below hb1)
    by_cases heq : ((histW es).toList == s.toList) = true
    · have hne : histW es = s := (eqS_iff _ _).1 heq
      gi_wp2_with fail
      have hK2 := (KeepsOthers.setCell (W1.setCell ⟨w.heap.size, 0, none⟩ (.slice av es.length cv)) ⟨w.heap.size + 1, 0, none⟩ (.bool true)).same D _ ((KeepsOthers.setCell W1 ⟨w.heap.size, 0, none⟩ (.slice av es.length cv)).same D _ hK1 rfl) rfl
      refine ⟨by simp, .inl ⟨_, _, rfl, run_takeDeferred hK2, ?_⟩⟩
      have r1 := ((b1.set (.slice av es.length cv)).other (B' := w.heap.size + 1) (by omega) (.bool true))
      have r2 := ((b2.other (B' := w.heap.size) (by omega) (.slice av es.length cv)).set (.bool true))
      have q1 := (r1.kept (grownBy_putObj' _ D (.deferred none)) (fun e => by cases e; rw [r1] at hK2; cases hK2)).cell
      have q2 := (r2.kept (grownBy_putObj' _ D (.deferred none)) (fun e => by cases e; rw [r2] at hK2; cases hK2)).cell
      refine ⟨.tuple #[.slice av es.length cv, .bool true], ?_, _, true, rfl, ?_, fun _ => ⟨hs, es, ?_, h4, hne⟩, (fun h => by cases h)⟩
      · simp [results, Tryz.results5, go_sem, q1, q2]
      · exact ((hB1.setCell (p := ⟨w.heap.size, 0, none⟩) (Nat.le_refl _) _).setCell (p := ⟨w.heap.size + 1, 0, none⟩) (Nat.le_succ _) _).trans (belowK_b (w := w) (Nat.le_refl _) _ D _ _ (by omega) hK2 rfl rfl)
      · exact ((hG1.same (sameT_set b1 (by decide) (by decide) _)).same (sameT_set (b2.other (B' := w.heap.size) (by omega) _) (by decide) (by decide) _)).same (sameT_put hK2 rfl)
    · have heq : ((histW es).toList == s.toList) = false := by simpa using heq
      have hne : histW es ≠ s := fun e => by rw [(eqS_iff _ _).2 e] at heq; cases heq
      gi_wp2_with fail
      have hK2 := (KeepsOthers.setCell (W1.setCell ⟨w.heap.size, 0, none⟩ (.slice none 0 0)) ⟨w.heap.size + 1, 0, none⟩ (.bool false)).same D _ ((KeepsOthers.setCell W1 ⟨w.heap.size, 0, none⟩ (.slice none 0 0)).same D _ hK1 rfl) rfl
      refine ⟨by simp, .inl ⟨_, _, rfl, run_takeDeferred hK2, ?_⟩⟩
      have r1 := ((b1.set (.slice none 0 0)).other (B' := w.heap.size + 1) (by omega) (.bool false))
      have r2 := ((b2.other (B' := w.heap.size) (by omega) (.slice none 0 0)).set (.bool false))
      have q1 := (r1.kept (grownBy_putObj' _ D (.deferred none)) (fun e => by cases e; rw [r1] at hK2; cases hK2)).cell
      have q2 := (r2.kept (grownBy_putObj' _ D (.deferred none)) (fun e => by cases e; rw [r2] at hK2; cases hK2)).cell
      refine ⟨.tuple #[.slice none 0 0, .bool false], ?_, _, false, rfl, ?_, (fun h => by cases h), fun _ => ⟨rfl, .inr (.inr ⟨es, h4, hne⟩)⟩⟩
      · simp [results, Tryz.results5, go_sem, q1, q2]
      · exact ((hB1.setCell (p := ⟨w.heap.size, 0, none⟩) (Nat.le_refl _) _).setCell (p := ⟨w.heap.size + 1, 0, none⟩) (Nat.le_succ _) _).trans (belowK_b (w := w) (Nat.le_refl _) _ D _ _ (by omega) hK2 rfl rfl)
  case stop =>
    rintro D c W hD ⟨rfl, h1, h2, h3, h6⟩ hK
    gi_wp2_with fail
    refine ⟨by simp, .inl ⟨_, _, rfl, run_takeDeferred hK, ?_⟩⟩
    have q1 := (h1.kept (grownBy_putObj' _ D (.deferred none)) (fun e => by cases e; rw [h1] at hK; cases hK)).cell
    have q2 := (h2.kept (grownBy_putObj' _ D (.deferred none)) (fun e => by cases e; rw [h2] at hK; cases hK)).cell
    refine ⟨.tuple #[.slice none 0 0, .bool false], ?_, _, false, rfl, ?_, (fun h => by cases h), fun _ => ⟨rfl, .inr (.inl h3)⟩⟩
    · simp [results, Tryz.results5, go_sem, q1, q2]
    · exact h6.trans (belowK_b (w := w) (Nat.le_refl _) _ D _ _ (by omega) hK rfl rfl)

theorem histReadP (s : ByteArray) (w : World) (he : Errs w) (ht : Tab w) : Calls Tryz.prog 5 #[.string s] w fun e w' => ReadsPost s w e w' := by
  by_cases h : s.size ≤ 16000
  · exact histRead_go s w h he ht
  · exact histRead_long s w (by omega)
end Go.Proofs.YtbngjpnbjknliaaGreatDoor

namespace Go.Proofs.YtbngjpnbjknliaaGreatDoor
set_option linter.unusedVariables false
set_option linter.unusedSimpArgs false
open Go

/-- A sign of a line. -/
def fine (c : UInt8) : Prop := c.toNat < 128 ∧ c ≠ 10
theorem fine_of {c : UInt8} (h : c.toNat < 128) (h2 : c.toNat ≠ 10) : fine c := ⟨h, fun e => h2 (by rw [e]; rfl)⟩
theorem fine_dig {c : UInt8} (h : isDig c = true) : fine c := by have := isDig_bd h; exact fine_of (by omega) (by omega)
theorem fine_word {c : UInt8} (h : wordc c = true) : fine c := by
  simp only [wordc, isLow, isDig, Bool.or_eq_true, Bool.and_eq_true, decide_eq_true_eq] at h
  exact fine_of (by omega) (by omega)
theorem fine_key {c : UInt8} (h : keyc c = true) : fine c := by
  simp only [keyc, isDig, Bool.or_eq_true, Bool.and_eq_true, decide_eq_true_eq] at h
  exact fine_of (by omega) (by omega)
theorem fine_name {s : ByteArray} (h : nameOk s.data.toList = true) : ∀ c ∈ s.data.toList, fine c := by
  simp only [nameOk, Bool.and_eq_true, List.all_eq_true] at h
  exact fun c hc => fine_word (h.2 c hc)
theorem fine_keys {s : ByteArray} (h : keyOk s.data.toList = true) : ∀ c ∈ s.data.toList, fine c := by
  simp only [keyOk, Bool.and_eq_true, List.all_eq_true] at h
  exact fun c hc => fine_key (h.1.1 c hc)
theorem fine_itoa (n : Int) : ∀ c ∈ (itoB n).data.toList, fine c := by
  have e : (itoB n).data.toList = Lib.itoa n := by simp [itoB]
  rw [e]
  have hd : ∀ u, ∀ c ∈ Lib.decDigits u, fine c := fun u c hc => fine_dig (decDigits_dig u _ hc)
  unfold Lib.itoa
  split
  · intro c hc
    rcases List.mem_cons.1 hc with rfl | hc
    · exact ⟨by decide, by decide⟩
    · exact hd _ c hc
  · exact hd _
theorem fine_kw : ∀ k, k ≤ 9 → ∀ c ∈ (entW.getD k eZ).data.toList, fine c := by
  have : ∀ k, k ≤ 9 → ∀ c ∈ (entW.getD k eZ).data.toList, c.toNat < 128 ∧ c.toNat ≠ 10 := by decide
  exact fun k hk c hc => fine_of (this k hk c hc).1 (this k hk c hc).2
theorem fine_words {e : Ent} (h : entOk e = true) : ∀ x ∈ bys (entWs e), ∀ c ∈ x, fine c := by
  obtain ⟨hk, hi, hn, h4, hs, hz⟩ := entOk_bd h
  obtain ⟨kind, id, key, name, nums⟩ := e
  simp only [entOk, entBody, Bool.and_eq_true] at h
  have hb := h.2
  dsimp only at hk hi hn h4 hs hz
  have hw := fine_kw kind.toNat (by omega)
  have hnums : ∀ x ∈ bys (nums.map itoB), ∀ c ∈ x, fine c := by
    intro x hx
    simp only [bys, List.map_map, List.mem_map, Function.comp] at hx
    obtain ⟨n, _, rfl⟩ := hx
    exact fine_itoa n
  have hnm : ∀ s : ByteArray, emp s = true ∨ nameOk s.data.toList = true → ∀ c ∈ (nmT s).data.toList, fine c := by
    intro s hs
    unfold nmT
    split
    · intro c hc
      have : c = 45 := by simpa using hc
      subst this
      exact ⟨by decide, by decide⟩
    · rename_i hne
      rcases hs with hs | hs
      · exact absurd (by simpa [emp] using hs) hne
      · exact fine_name hs
  unfold entWs
  intro x hx
  rw [show bys (entW.getD kind.toNat eZ :: _) = (entW.getD kind.toNat eZ).data.toList :: bys _ from rfl, List.mem_cons, bys_app, List.mem_append] at hx
  rcases hx with rfl | hx | hx
  · exact hw
  · by_cases h3 : kind = 3
    · subst h3
      rw [if_pos rfl] at hx
      rw [if_neg (by omega), if_neg (by omega), if_pos rfl] at hb
      simp only [Bool.and_eq_true, Bool.or_eq_true] at hb
      simp only [bys, List.map_cons, List.map_nil, List.mem_cons, List.not_mem_nil, or_false] at hx
      rcases hx with rfl | rfl | rfl
      · exact fine_itoa id
      · exact fine_keys hb.1.1.2
      · exact hnm name hb.1.2
    · rw [if_neg h3] at hx
      by_cases h2 : kind = 2 ∨ kind = 7
      · rw [if_pos h2] at hx
        simp only [bys, List.map_cons, List.map_nil, List.mem_cons, List.not_mem_nil, or_false] at hx
        subst hx
        rcases h2 with rfl | rfl
        · rw [if_neg (by omega), if_pos rfl] at hb
          simp only [Bool.and_eq_true] at hb
          exact fine_name hb.1.2
        · rw [if_neg (by omega), if_neg (by omega), if_neg (by omega), if_neg (by omega), if_neg (by omega), if_pos rfl] at hb
          simp only [Bool.and_eq_true] at hb
          exact fine_name hb.1.2
      · rw [if_neg h2] at hx
        by_cases h1 : kind = 1 ∨ kind = 8
        · rw [if_pos h1] at hx; simp [bys] at hx
        · rw [if_neg h1] at hx
          simp only [bys, List.map_cons, List.map_nil, List.mem_cons, List.not_mem_nil, or_false] at hx
          subst hx; exact fine_itoa id
  · exact hnums x hx
theorem fine_jl : ∀ (ws : List (List UInt8)), (∀ x ∈ ws, ∀ c ∈ x, fine c) → ∀ c ∈ jl ws, fine c := by
  intro ws
  induction ws with
  | nil => intro _ c hc; simp [jl] at hc
  | cons x t ih =>
    intro h c hc
    cases t with
    | nil => exact h x (by simp) c (by simpa [jl] using hc)
    | cons y t =>
      simp only [jl, List.mem_append, List.mem_cons] at hc
      rcases hc with hc | rfl | hc
      · exact h x (by simp) c hc
      · exact ⟨by decide, by decide⟩
      · exact ih (fun z hz => h z (List.mem_cons_of_mem _ hz)) c hc
theorem fine_text {e : Ent} (h : entOk e = true) : ∀ c ∈ (entText e).data.toList, fine c := by
  rw [entText_jl]; exact fine_jl _ (fine_words h)

/-- Lines of signs, acc being there. -/
def goL : List UInt8 → List UInt8 → List ByteArray
  | [], _ => []
  | b :: r, acc => if b = 10 then ⟨acc.toArray⟩ :: goL r [] else goL r (acc ++ [b])
theorem goL_line : ∀ (x r acc : List UInt8), (∀ c ∈ x, fine c) → goL (x ++ 10 :: r) acc = ⟨(acc ++ x).toArray⟩ :: goL r [] := by
  intro x
  induction x with
  | nil => intro r acc _; simp [goL]
  | cons b x ih =>
    intro r acc h
    rw [List.cons_append, goL, if_neg (h b (by simp)).2, ih r (acc ++ [b]) (fun c hc => h c (List.mem_cons_of_mem _ hc))]
    simp
theorem lines_goL (s : ByteArray) (hs : ∀ c ∈ s.data.toList, c.toNat < 128) : ∀ (f pos : Nat) (acc : List UInt8), s.size ≤ pos + f → linesFrom s f pos acc = goL (s.data.toList.drop pos) acc := by
  intro f
  induction f with
  | zero =>
    intro pos acc h
    rw [List.drop_of_length_le (by rw [Array.length_toList]; exact h)]; rfl
  | succ f ih =>
    intro pos acc h
    rw [linesFrom]
    by_cases hp : pos < s.size
    · have hlt : pos < s.data.toList.length := by rw [Array.length_toList]; exact hp
      have hb : (s[pos]'hp).toNat < 128 := hs _ (by rw [show s[pos]'hp = s.data.toList[pos] from rfl]; exact List.getElem_mem hlt)
      rw [if_pos hp, decode_ascii s pos hp hb, List.drop_eq_getElem_cons hlt, goL]
      have hcell : s.data.toList[pos] = s[pos]'hp := rfl
      rw [hcell]
      have henc : Lib.encodeRune ((s[pos]'hp).toNat : Int) = [s[pos]'hp] := by
        unfold Lib.encodeRune
        rw [Lib.encodeRuneZ_one (by omega) (by omega)]
        simp
      by_cases h10 : (s[pos]'hp) = 10
      · rw [if_pos (by rw [h10]; rfl), if_pos h10, ih (pos + 1) [] (by omega)]
      · have hn : (s[pos]'hp).toNat ≠ 10 := fun e => h10 (UInt8.toNat_inj.1 (by rw [e]; rfl))
        rw [if_neg hn, if_neg h10, henc, ih (pos + 1) (acc ++ [s[pos]'hp]) (by omega)]
    · rw [if_neg hp, List.drop_of_length_le (by rw [Array.length_toList]; exact Nat.le_of_not_lt hp)]; rfl

theorem histT_bytes : ∀ (es : List Ent), (histT es).data.toList = (es.map fun e => (entText e).data.toList ++ [10]).flatten := by
  have key : ∀ (l : List Ent) (b : ByteArray), (l.foldl (fun o e => o ++ entText e ++ nlB) b).data.toList = b.data.toList ++ (l.map fun e => (entText e).data.toList ++ [10]).flatten := by
    intro l
    induction l with
    | nil => intro b; simp
    | cons e l ih => intro b; rw [List.foldl_cons, ih]; simp [nlB]
  intro es
  have := key es ⟨#[]⟩
  simpa [histT] using this
theorem histT_lines (es : List Ent) (h : ∀ e ∈ es, entOk e = true) : linesOf (histT es) = es.map entText := by
  have hf : ∀ c ∈ (histT es).data.toList, c.toNat < 128 := by
    rw [histT_bytes]
    intro c hc
    simp only [List.mem_flatten, List.mem_map] at hc
    obtain ⟨l, ⟨e, he, rfl⟩, hc⟩ := hc
    rcases List.mem_append.1 hc with hc | hc
    · exact (fine_text (h e he) c hc).1
    · have : c = 10 := by simpa using hc
      subst this; decide
  unfold linesOf
  rw [lines_goL _ hf _ 0 [] (by omega), List.drop_zero, histT_bytes]
  clear hf
  induction es with
  | nil => rfl
  | cons e es ih =>
    rw [List.map_cons, List.flatten_cons, List.append_assoc, List.singleton_append, goL_line _ _ [] (fine_text (h e (by simp))), ih (fun x hx => h x (List.mem_cons_of_mem _ hx))]
    simp
theorem readAll_own (es : List Ent) (h : ∀ e ∈ es, entOk e = true) : readAll (es.map entText) = some es := by
  induction es with
  | nil => rfl
  | cons e es ih =>
    have he := h e (by simp)
    have hl : readLine (entText e) = some e := by
      unfold readLine
      rw [show wordsB (entText e) = entWs e from bys_inj ((wordsB_bys _).trans (cut_text he))]
      exact readP_own he
    rw [List.map_cons, readAll, hl, ih (fun x hx => h x (List.mem_cons_of_mem _ hx))]; rfl

/-- The text of a history, and which: what both readers must say. -/
def IsText (s : ByteArray) (es : List Ent) : Prop := entsOk es = true ∧ histT es = s ∧ s.size ≤ 16000
theorem reads_yes {s : ByteArray} {es : List Ent} (hs : s.size ≤ 16000) (hr : readAll (linesOf s) = some es) (hw : histW es = s) : IsText s es := by
  unfold histW at hw
  split at hw
  · rename_i h; exact ⟨h, hw, hs⟩
  · rename_i h
    have hl : linesOf s = [] := by rw [← hw]; rfl
    rw [hl] at hr
    simp only [readAll, Option.some.injEq] at hr
    subst hr
    exact absurd (by decide) h
theorem reads_no {s : ByteArray} (h : 16000 < s.size ∨ readAll (linesOf s) = none ∨ ∃ es, readAll (linesOf s) = some es ∧ histW es ≠ s) : ∀ es, ¬ IsText s es := by
  rintro es ⟨h1, rfl, h3⟩
  have hall := ents_all h1
  have hr : readAll (linesOf (histT es)) = some es := by rw [histT_lines es hall.1, readAll_own es hall.1]
  rcases h with h | h | ⟨es', h, hne⟩
  · omega
  · rw [hr] at h; cases h
  · rw [hr] at h; cases h
    exact hne (by unfold histW; rw [if_pos h1])
end Go.Proofs.YtbngjpnbjknliaaGreatDoor
