/- The program's own calendars: CalNext. -/
import Derived.Test.YtkemfifkjaclhaaDoorCI9
import Derived.Test.YtkemfifkjaclhaaDoorCA10a
import Derived.RangeFuncFrom
import Derived.Shelf.Abstract
namespace Go.Proofs.YtkemfifkjaclhaaDoor
set_option linter.unusedVariables false
set_option linter.unusedSimpArgs false
open Go.RowKit Go
attribute [local go_sem] Oper.semAt_some

theorem Teller.loop {w0 W : World} {M p1 p2 : Nat} {v : Value} {t : Int} {ps : List Rul} (h : Teller w0 W M p1 p2 v t ps) {l : Nat} {r r' : Loop} (hl : w0.heap.size ≤ l) (hr : W.heap[l]? = some (.loop r)) : Teller w0 (W.putObj l (.loop r')) M p1 p2 v t ps := by
  refine h.keep ((Below.refl _ W).grown (grownBy_putObj' W l (.loop r')) h.1.size (fun k hk => by cases hk; exact hl)) (fun k c ty fz _ hk => ?_)
  rw [World.putObj_heap_other ?_]; · exact hk
  rintro rfl
  rw [hr] at hk; cases hk
theorem wf_lo {n : Int} (h : (Lit.int .i64 n).wf = true) : -9223372036854775808 ≤ n := by
  have hmin : IntKind.i64.min = -9223372036854775808 := rfl
  simp only [Lit.wf, Bool.and_eq_true, decide_eq_true_eq] at h
  omega
theorem keepsFrom_set {B : Nat} {W : World} {k : Nat} {t : TypeId} {v : Value} (h : Boxed W k t v) (u : Value) : KeepsFrom B W (W.setCell ⟨k, 0, none⟩ u) := by
  refine ⟨by simp, fun j o _ hj ho => ?_⟩
  rw [Below.heap_setCell W ⟨k, 0, none⟩ u j ?_]; · exact hj
  rintro rfl
  rw [show W.heap[j]? = _ from h] at hj; cases hj; cases ho

set_option maxRecDepth 100000 in
set_option maxHeartbeats 4000000 in
theorem implCalNext (a : Option Addr) (len cap : Nat) (rs : List Rul) (t : Int) (ht : -9223372036854775808 ≤ t) (w : World) (hr : IsRuls w a len cap rs) (hg : ErrT w) :
    Calls Tryd.prog 6 #[.slice a len cap, .int .i64 t] w fun e w' => e = .returned (.int .i64 (calNext rs t)) ∧ Below w.heap.size w w' := by
  refine (callsIn_wide (n := 6)).1 ?_
  refine callsIn_of_wp_marks Tryd.func6 rfl trivial ?_ rfl
  simp only [Tryd.ntmps6, List.size_toArray, List.length_cons, List.length_nil, Nat.reduceAdd, Nat.reduceSub, Array.replicate_succ, Array.replicate_zero, List.push_toArray, List.append_toArray, List.nil_append, List.cons_append]
  gi_wp2_with fail
  have hbA : Below w.heap.size w (w.alloc (.cells #[.int .i64 0] 3)) := (Below.refl _ _).alloc (Nat.le_refl _) _
  refine ⟨trivial, (callsIn_wide.2 (dueAbove w a len cap rs t _ hr hbA (hg.below hbA))).mono ?_⟩
  rintro e w1 ⟨hb1, p1, p2, v, rfl, hT⟩
  have c0 : Boxed (w.alloc (.cells #[.int .i64 0] 3)) w.heap.size 3 (.int .i64 0) := Boxed.new w _ _
  have hc : Boxed w1 w.heap.size 3 (.int .i64 0) := (hb1.block _ (by simp)).trans c0
  have hB : Below w.heap.size w w1 := hT.1
  have hsz : w.heap.size + 1 ≤ w1.heap.size := by have := hb1.size; simpa using this
  gi_wp2_with fail
  refine range_own rfl (by omega) (gf := 47) (lb := #[.pointer (some ⟨p1, 0, none⟩), .pointer (some ⟨p2, 0, none⟩)]) rfl trivial (enters_of Tryd.func47 (by kernel_rfl) rfl)
    (merged1 w _ p1 p2 v t rs ht _ (by omega))
    (fun W hb => hT.keep (hb.mono (by omega)) (KeptUp.below hb))
    (fun f g h => g (f h)) (fun W l r r' hl hlp h => Teller.loop h (by omega) hlp) (fun A B hd k o hk _ _ => (hd.block k (Array.getElem?_eq_some_iff.1 hk).1).trans hk) (fun _ => rfl)
    (fun pre W => pre = [] ∧ Boxed W w.heap.size 3 (.int .i64 0) ∧ Below w.heap.size w W)
    (fun c W => c = .ret ∧ Boxed W w.heap.size 3 (.int .i64 (calNext rs t)) ∧ Below w.heap.size w W)
    ?hI ?hIx ?hId ?hIxd ?h0
    (fun x => { tmps := #[.slice a len cap, .int .i64 t, undef, undef, .pointer (some ⟨w.heap.size, 0, none⟩), .int .i64 x, .slice a len cap, .int .i64 t, .func (.func 47) #[] #[.pointer (some ⟨p1, 0, none⟩), .pointer (some ⟨p2, 0, none⟩)], .int .i64 x, undef], defers := [] }) ?assign ?body ?done ?stop
  case hI =>
    rintro pre X Y row ⟨h0, h1, h6⟩ hg hr
    have nb : ∀ {k : Nat} {t : TypeId} {u : Value}, Boxed X k t u → some k ≠ row := fun hb e => by
      obtain ⟨_, o, ho, hc⟩ := hr _ e.symm
      rw [hb] at ho; cases ho; cases hc
    exact ⟨h0, h1.kept hg (nb h1), h6.trans ((Below.refl _ X).grown hg h6.size (fun k hk => by have := (hr k hk).1; omega))⟩
  case hIx =>
    rintro c _ X Y row ⟨h0, h1, h6⟩ hg hr
    have nb : ∀ {k : Nat} {t : TypeId} {u : Value}, Boxed X k t u → some k ≠ row := fun hb e => by
      obtain ⟨_, o, ho, hc⟩ := hr _ e.symm
      rw [hb] at ho; cases ho; cases hc
    exact ⟨h0, h1.kept hg (nb h1), h6.trans ((Below.refl _ X).grown hg h6.size (fun k hk => by have := (hr k hk).1; omega))⟩
  case hId =>
    rintro pre X Y hX ⟨h0, h1, h6⟩ hd
    exact ⟨h0, (hd.block _ h1.lt).trans h1, h6.trans (hd.mono h6.size)⟩
  case hIxd =>
    rintro c X Y hX ⟨h0, h1, h6⟩ hd
    exact ⟨h0, (hd.block _ h1.lt).trans h1, h6.trans (hd.mono h6.size)⟩
  case h0 => exact ⟨rfl, hc, hB⟩
  case assign =>
    intro l x W K hK
    gi_wp2
    exact hK
  case body =>
    rintro l pre x W hl ⟨rfl, h1, h6⟩ hpre
    have hx : x = calNext rs t := by
      by_cases hn : calNext rs t < 0
      · rw [dueL_nil hn] at hpre; simp at hpre
      · rw [dueL, if_neg hn] at hpre
        obtain ⟨r, hr⟩ := hpre
        simp at hr; exact hr.1
    subst hx
    have k1 := h1.cell
    have k2 := h1.frozen
    gi_wp2_with fail
    exact ⟨keepsFrom_set h1 _, rfl, h1.set _, h6.setCell (p := ⟨w.heap.size, 0, none⟩) (Nat.le_refl _) _⟩
  case done =>
    rintro D W hD ⟨hnil, h1, h6⟩ hK
    have hx : calNext rs t = -1 := by
      have hbd := next_bd rs t
      by_cases hn : calNext rs t < 0
      · omega
      · rw [dueL, if_neg hn] at hnil; cases hnil
    have k1 := h1.cell
    have k2 := h1.frozen
    gi_wp2_with fail
    have hK2 := (KeepsOthers.setCell W ⟨w.heap.size, 0, none⟩ (.int .i64 (-1))).same D _ hK rfl
    refine ⟨by simp, .inl ⟨_, _, rfl, run_takeDeferred hK2, ?_⟩⟩
    have r1 := h1.set (.int .i64 (-1))
    have q1 := (r1.kept (grownBy_putObj' _ D (.deferred none)) (fun e => by cases e; rw [r1] at hK2; cases hK2)).cell
    refine ⟨.int .i64 (-1), ?_, by rw [hx], ?_⟩
    · simp [results, Tryd.results6, go_sem, q1]
    · exact (h6.setCell (p := ⟨w.heap.size, 0, none⟩) (Nat.le_refl _) _).trans ((Below.refl _ _).grown (grownBy_putObj' _ D (.deferred none)) (by have := h6.size; simp; omega) (fun k hk => by cases hk; omega))
  case stop =>
    rintro D c W hD ⟨rfl, h1, h6⟩ hK
    gi_wp2_with fail
    refine ⟨by simp, .inl ⟨_, _, rfl, run_takeDeferred hK, ?_⟩⟩
    have q1 := (h1.kept (grownBy_putObj' _ D (.deferred none)) (fun e => by cases e; rw [h1] at hK; cases hK)).cell
    refine ⟨.int .i64 (calNext rs t), ?_, rfl, ?_⟩
    · simp [results, Tryd.results6, go_sem, q1]
    · exact h6.trans ((Below.refl _ _).grown (grownBy_putObj' _ D (.deferred none)) h6.size (fun k hk => by cases hk; omega))
end Go.Proofs.YtkemfifkjaclhaaDoor
