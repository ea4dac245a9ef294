/- The program's own calendars: CalCount. -/
import Derived.Test.YtkemfifkjaclhaaDoorCI10
import Derived.Test.YtkemfifkjaclhaaDoorCA13
namespace Go.Proofs.YtkemfifkjaclhaaDoor
set_option linter.unusedVariables false
set_option linter.unusedSimpArgs false
open Go.RowKit Go
attribute [local go_sem] Oper.semAt_some

theorem dueL_len (rs : List Rul) : ∀ (f : Nat) (t : Int), (dueL rs f t).length ≤ f := by
  intro f
  induction f with
  | zero => intro t; simp [dueL]
  | succ f ih =>
    intro t
    rw [dueL]
    split
    · simp
    · simp; exact ih _
theorem due_prefix (rs : List Rul) : ∀ (pre : List Int) (f : Nat) (t x : Int), pre ++ [x] <+: dueL rs f t → x = calNext rs (pre.getLastD t) ∧ 0 ≤ x := by
  intro pre
  induction pre with
  | nil =>
    intro f t x h
    cases f with
    | zero => simp [dueL] at h
    | succ f =>
      rw [dueL] at h
      split at h
      · simp at h
      · obtain ⟨r, hr⟩ := h
        simp at hr
        have e : x = calNext rs t := hr.1
        exact ⟨e, by omega⟩
  | cons y pre ih =>
    intro f t x h
    cases f with
    | zero => simp [dueL] at h
    | succ f =>
      rw [dueL] at h
      split at h
      · simp at h
      · obtain ⟨r, hr⟩ := h
        simp only [List.cons_append, List.cons.injEq] at hr
        obtain ⟨rfl, hr⟩ := hr
        rw [List.getLastD_cons]
        exact ih f (calNext rs t) x ⟨r, hr⟩
theorem due_end (rs : List Rul) : ∀ (f : Nat) (t : Int), Enough f t → calNext rs ((dueL rs f t).getLastD t) = -1 := by
  intro f
  induction f with
  | zero =>
    intro t hf
    have hb := next_bd rs t
    show calNext rs t = -1
    by_cases h : 0 ≤ calNext rs t
    · exfalso
      have := hb.2.2 h
      by_cases e : t < 0
      · have := hf.1 e; omega
      · have := hf.2 (by omega); omega
    · omega
  | succ f ih =>
    intro t hf
    have hb := next_bd rs t
    rw [dueL]
    split
    · show calNext rs t = -1; omega
    · have h3 := hb.2.2 (by omega)
      have := ih (calNext rs t) ⟨fun h4 => by omega, fun _ => by
        by_cases e : t < 0
        · have := hf.1 e; omega
        · have := hf.2 (by omega); omega⟩
      rw [List.getLastD_cons]
      exact this
theorem FirstR.none {P : Int → Prop} {t n : Int} (h : FirstR P t n) : ∀ v, t < v → v < n → ¬ P v := by
  rcases h with ⟨_, h⟩ | ⟨_, _, h⟩
  · exact fun v h1 _ => h v h1
  · exact h
theorem IsNext.none {rs : List Rul} {t n : Int} (h : IsNext rs t n) : ∀ v, t < v → v < n → ¬ calDue rs v = true := FirstR.none h
theorem IsNext.never {rs : List Rul} {t n : Int} (h : IsNext rs t n) (hn : n = -1) : ∀ v, t < v → ¬ calDue rs v = true := by
  rcases h with ⟨_, h⟩ | ⟨h1, _, _⟩
  · exact h
  · exact absurd (due_bd h1).1 (by omega)
/-- So many were counted: they lie behind t, none above u. -/
def Counted (rs : List Rul) (t u : Int) (pre : List Int) : Prop := calCount rs t (pre.getLastD t) = (pre.length : Nat) ∧ t ≤ pre.getLastD t ∧ (pre = [] ∨ pre.getLastD t ≤ u)
theorem Counted.nil (rs : List Rul) (t u : Int) : Counted rs t u [] := ⟨count_low rs (Int.le_refl _), Int.le_refl _, .inl rfl⟩
theorem Counted.step {rs : List Rul} {t u x : Int} {pre : List Int} (h : Counted rs t u pre) (hx : x = calNext rs (pre.getLastD t)) (h0 : 0 ≤ x) (hu : x ≤ u) : Counted rs t u (pre ++ [x]) := by
  have hn := next_is rs (pre.getLastD t)
  rw [← hx] at hn
  have hlt : pre.getLastD t < x := by
    rcases hn with ⟨h1, _⟩ | ⟨_, h1, _⟩
    · omega
    · exact h1
  have hc := count_one rs h.2.1 hn h0
  have h1 := h.1
  have h2 := h.2.1
  refine ⟨?_, ?_, .inr ?_⟩
  · rw [List.getLastD_concat, hc, h1]; simp
  · rw [List.getLastD_concat]; omega
  · rw [List.getLastD_concat]; exact hu
theorem Counted.fin {rs : List Rul} {t u : Int} {pre : List Int} (h : Counted rs t u pre) (hn : ∀ v, pre.getLastD t < v → v ≤ u → ¬ calDue rs v = true) : calCount rs t u = (pre.length : Nat) := by
  by_cases hl : pre.getLastD t ≤ u
  · rw [count_none rs hl hn]; exact h.1
  · rcases h.2.2 with rfl | h3
    · exact count_low rs (by simp at hl; omega)
    · omega

set_option maxRecDepth 100000 in
set_option maxHeartbeats 4000000 in
theorem implCalCount (a : Option Addr) (len cap : Nat) (rs : List Rul) (t u : Int) (ht : -9223372036854775808 ≤ t) (w : World) (hr : IsRuls w a len cap rs) (hg : ErrT w) :
    Calls Tryd.prog 11 #[.slice a len cap, .int .i64 t, .int .i64 u] w fun e w' => e = .returned (.int .i64 (calCount rs t u)) ∧ Below w.heap.size w w' := by
  refine (callsIn_wide (n := 6)).1 ?_
  refine callsIn_of_wp_marks Tryd.func11 rfl trivial ?_ rfl
  simp only [Tryd.ntmps11, List.size_toArray, List.length_cons, List.length_nil, Nat.reduceAdd, Nat.reduceSub, Array.replicate_succ, Array.replicate_zero, List.push_toArray, List.append_toArray, List.nil_append, List.cons_append]
  gi_wp2_with fail
  have hbA : Below w.heap.size w ((w.alloc (.cells #[.int .i64 u] 3)).alloc (.cells #[.int .i64 0] 3)) := ((Below.refl _ _).alloc (Nat.le_refl _) _).alloc (by simp) _
  refine ⟨trivial, (callsIn_wide.2 (dueAbove w a len cap rs t _ hr hbA (hg.below hbA))).mono ?_⟩
  rintro e w1 ⟨hb1, p1, p2, v, rfl, hT⟩
  have c0 : Boxed ((w.alloc (.cells #[.int .i64 u] 3)).alloc (.cells #[.int .i64 0] 3)) w.heap.size 3 (.int .i64 u) := (Boxed.new w _ _).alloc _
  have c1 : Boxed ((w.alloc (.cells #[.int .i64 u] 3)).alloc (.cells #[.int .i64 0] 3)) (w.heap.size + 1) 3 (.int .i64 0) := by
    have := Boxed.new (w.alloc (.cells #[.int .i64 u] 3)) 3 (.int .i64 0)
    rwa [World.size_alloc] at this
  have hc0 : Boxed w1 w.heap.size 3 (.int .i64 u) := (hb1.block _ (by simp; omega)).trans c0
  have hc1 : Boxed w1 (w.heap.size + 1) 3 (.int .i64 0) := (hb1.block _ (by simp)).trans c1
  have hB : Below w.heap.size w w1 := hT.1
  have hM : ((w.alloc (.cells #[.int .i64 u] 3)).alloc (.cells #[.int .i64 0] 3)).heap.size = w.heap.size + 1 + 1 := by simp
  rw [hM] at hT
  have hsz : w.heap.size + 1 + 1 ≤ w1.heap.size := by have := hb1.size; simpa using this
  clear c0 c1 hM
  gi_wp2_with fail
  refine range_own rfl (by omega) (gf := 47) (lb := #[.pointer (some ⟨p1, 0, none⟩), .pointer (some ⟨p2, 0, none⟩)]) rfl trivial (enters_of Tryd.func47 (by kernel_rfl) rfl)
    (merged1 w (w.heap.size + 1 + 1) p1 p2 v t rs ht _ (by omega))
    (fun W hb => hT.keep (hb.mono (by omega)) (KeptUp.below hb))
    (fun f g h => g (f h)) (fun W l r r' hl hlp h => Teller.loop h (by omega) hlp) (fun A B hd k o hk _ _ => (hd.block k (Array.getElem?_eq_some_iff.1 hk).1).trans hk) (fun _ => rfl)
    (fun pre W => Counted rs t u pre ∧ Boxed W w.heap.size 3 (.int .i64 u) ∧ Boxed W (w.heap.size + 1) 3 (.int .i64 (pre.length : Nat)) ∧ Below w.heap.size w W)
    (fun c W => c = .exit 0 ∧ Boxed W w.heap.size 3 (.int .i64 u) ∧ Boxed W (w.heap.size + 1) 3 (.int .i64 (calCount rs t u)) ∧ Below w.heap.size w W)
    ?hI ?hIx ?hId ?hIxd ?h0
    (fun x => { tmps := #[.slice a len cap, .int .i64 t, .int .i64 u, undef, undef, .pointer (some ⟨w.heap.size, 0, none⟩), .int .i64 0, .pointer (some ⟨w.heap.size + 1, 0, none⟩), .int .i64 x, .slice a len cap, .int .i64 t, .func (.func 47) #[] #[.pointer (some ⟨p1, 0, none⟩), .pointer (some ⟨p2, 0, none⟩)], .int .i64 x, undef, undef, undef, undef, undef, undef], defers := [] }) ?assign ?body ?done ?stop
  case hI =>
    rintro pre X Y row ⟨h0, h1, h2, h6⟩ hg hr
    have nb : ∀ {k : Nat} {t : TypeId} {u : Value}, Boxed X k t u → some k ≠ row := fun hb e => by
      obtain ⟨_, o, ho, hc⟩ := hr _ e.symm
      rw [hb] at ho; cases ho; cases hc
    exact ⟨h0, h1.kept hg (nb h1), h2.kept hg (nb h2), h6.trans ((Below.refl _ X).grown hg h6.size (fun k hk => by have := (hr k hk).1; omega))⟩
  case hIx =>
    rintro c _ X Y row ⟨h0, h1, h2, h6⟩ hg hr
    have nb : ∀ {k : Nat} {t : TypeId} {u : Value}, Boxed X k t u → some k ≠ row := fun hb e => by
      obtain ⟨_, o, ho, hc⟩ := hr _ e.symm
      rw [hb] at ho; cases ho; cases hc
    exact ⟨h0, h1.kept hg (nb h1), h2.kept hg (nb h2), h6.trans ((Below.refl _ X).grown hg h6.size (fun k hk => by have := (hr k hk).1; omega))⟩
  case hId =>
    rintro pre X Y hX ⟨h0, h1, h2, h6⟩ hd
    exact ⟨h0, (hd.block _ h1.lt).trans h1, (hd.block _ h2.lt).trans h2, h6.trans (hd.mono h6.size)⟩
  case hIxd =>
    rintro c X Y hX ⟨h0, h1, h2, h6⟩ hd
    exact ⟨h0, (hd.block _ h1.lt).trans h1, (hd.block _ h2.lt).trans h2, h6.trans (hd.mono h6.size)⟩
  case h0 => exact ⟨Counted.nil rs t u, hc0, hc1, hB⟩
  case assign =>
    intro l x W K hK
    gi_wp2
    exact hK
  case body =>
    rintro l pre x W hl ⟨h0, h1, h2, h6⟩ hpre
    obtain ⟨hx, hx0⟩ := due_prefix rs pre 100002 t x hpre
    have hlen : pre.length < 100002 := by
      have := hpre.length_le
      have := dueL_len rs 100002 t
      simp at *; omega
    have k1 := h1.cell
    have k2 := h2.cell
    have k3 := h2.frozen
    have HX : Hid (x = calNext rs (pre.getLastD t)) := hx
    clear hx
    gi_wp2_with fail
    · have hcnt : calCount rs t u = (pre.length : Nat) := h0.fin (fun v h3 h4 h5 => (next_is rs (pre.getLastD t)).none v h3 (by rw [← HX.out]; omega) h5)
      exact ⟨KeepsFrom.refl _ _, rfl, h1, by rw [hcnt]; exact h2, h6⟩
    · refine ⟨keepsFrom_set h2 _, fun hTT => ?_, h0.step HX.out hx0 (by omega), h1.other (by omega) _, ?_, h6.setCell (p := ⟨w.heap.size + 1, 0, none⟩) (Nat.le_succ _) _⟩
      · refine hTT.keep ((Below.refl _ W).setCell (p := ⟨w.heap.size + 1, 0, none⟩) (Nat.le_succ _) _) (fun k c ty fz hk hkc => ?_)
        rw [Below.heap_setCell W ⟨w.heap.size + 1, 0, none⟩ _ k (by simp only; omega)]; exact hkc
      · have := h2.set (.int .i64 ((pre.length : Int) + 1))
        simpa using this
  case done =>
    rintro D W hD ⟨h0, h1, h2, h6⟩ hK
    have hend := due_end rs 100002 t ⟨fun _ => Nat.le_refl _, fun h => by omega⟩
    have hcnt : calCount rs t u = ((dueL rs 100002 t).length : Nat) := h0.fin (fun v h3 h4 h5 => (next_is rs ((dueL rs 100002 t).getLastD t)).never hend v h3 h5)
    rw [← hcnt] at h2
    clear hcnt
    have k1 := h2.cell
    gi_wp2_with fail
    refine ⟨by simp, .inl ⟨_, _, rfl, run_takeDeferred hK, ?_⟩⟩
    refine ⟨.int .i64 (calCount rs t u), ?_, rfl, ?_⟩
    · simp [results, Tryd.results11, go_sem]
    · exact h6.trans ((Below.refl _ _).grown (grownBy_putObj' _ D (.deferred none)) h6.size (fun k hk => by cases hk; omega))
  case stop =>
    rintro D c W hD ⟨rfl, h1, h2, h6⟩ hK
    have k1 := h2.cell
    gi_wp2_with fail
    refine ⟨by simp, .inl ⟨_, _, rfl, run_takeDeferred hK, ?_⟩⟩
    refine ⟨.int .i64 (calCount rs t u), ?_, rfl, ?_⟩
    · simp [results, Tryd.results11, go_sem]
    · exact h6.trans ((Below.refl _ _).grown (grownBy_putObj' _ D (.deferred none)) h6.size (fun k hk => by cases hk; omega))
end Go.Proofs.YtkemfifkjaclhaaDoor
