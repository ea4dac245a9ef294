/- Helpers of the walk of the model's l41Rule. -/
import Derived.Test.YtkemfifkjaclhaaDoorCW8
import Derived.Deep.CutBlock
import Derived.Deep.DeepCutAuto
import Derived.Deep.RegionHeld3
import Derived.OrdersHeld
import Derived.Shelf.Abstract
namespace Go.Proofs.YtkemfifkjaclhaaDoor
set_option linter.unusedVariables false
set_option linter.unusedSimpArgs false
open Go.RowKit Go
namespace Cal

theorem holds_later {w w' : World} {N B : Nat} {t : TypeId} {cur : Array Value} (h : Holds w N t cur) (hb : Below B w w') (hN : N < B) : Holds w' N t cur := by
  unfold Holds at h ⊢; rw [hb.block N hN]; exact h
theorem five {w : World} {N : Nat} {t : TypeId} {v0 v1 v2 v3 v4 : Value} (h : Holds w N t #[v0, v1, v2, v3, v4]) : w.cell? ⟨N, 0, none⟩ = some v0 ∧ w.cell? ⟨N, 1, none⟩ = some v1 ∧ w.cell? ⟨N, 2, none⟩ = some v2 ∧ w.cell? ⟨N, 3, none⟩ = some v3 ∧ w.cell? ⟨N, 4, none⟩ = some v4 :=
  ⟨by rw [h.cell]; rfl, by rw [h.cell]; rfl, by rw [h.cell]; rfl, by rw [h.cell]; rfl, by rw [h.cell]; rfl⟩
theorem holds_drew {w : World} {N : Nat} {t : TypeId} {cur : Array Value} (h : Holds w N t cur) : Holds w.drew N t cur := h
theorem holds_else {w : World} {N R : Nat} {t : TypeId} {cur : Array Value} (h : Holds w N t cur) (i : Nat) (u : Value) (hne : N ≠ R) : Holds (w.setCell ⟨R, i, none⟩ u) N t cur := by
  unfold Holds at h ⊢; rw [Below.heap_setCell w ⟨R, i, none⟩ u N hne]; exact h
theorem holds_else5 {w : World} {N R : Nat} {t : TypeId} {cur : Array Value} (h : Holds w N t cur) (u0 u1 u2 u3 u4 : Value) (hne : N ≠ R) : Holds (((((w.setCell ⟨R, 0, none⟩ u0).setCell ⟨R, 1, none⟩ u1).setCell ⟨R, 2, none⟩ u2).setCell ⟨R, 3, none⟩ u3).setCell ⟨R, 4, none⟩ u4) N t cur :=
  holds_else (holds_else (holds_else (holds_else (holds_else h 0 u0 hne) 1 u1 hne) 2 u2 hne) 3 u3 hne) 4 u4 hne
theorem isRow_set5far {k : IntKind} {w : World} {a : Option Addr} {len cap : Nat} {zs : List Int} (h : IsRow k w a len cap zs) {N : Nat} (hf : 0 < len → ∀ b off, a = some ⟨b, off, none⟩ → b ≠ N) (v0 v1 v2 v3 v4 : Value) :
    IsRow k (((((w.setCell ⟨N, 0, none⟩ v0).setCell ⟨N, 0 + 1, none⟩ v1).setCell ⟨N, 0 + 2, none⟩ v2).setCell ⟨N, 0 + 3, none⟩ v3).setCell ⟨N, 0 + 4, none⟩ v4) a len cap zs := by
  obtain ⟨h1, h2, h3, h4, h5⟩ := h
  refine ⟨h1, h2, h3, fun hl => ?_, h5⟩
  obtain ⟨b, off, rfl, hb1, hc⟩ := h4 hl
  have hne := hf hl b off rfl
  refine ⟨b, off, rfl, by simpa using hb1, fun i hi => ?_⟩
  rw [← hc i hi]
  refine World.cell?_of_block (a := ⟨b, off + i, none⟩) ?_
  rw [Below.heap_setCell _ ⟨N, 0 + 4, none⟩ v4 b hne, Below.heap_setCell _ ⟨N, 0 + 3, none⟩ v3 b hne, Below.heap_setCell _ ⟨N, 0 + 2, none⟩ v2 b hne, Below.heap_setCell _ ⟨N, 0 + 1, none⟩ v1 b hne, Below.heap_setCell _ ⟨N, 0, none⟩ v0 b hne]
theorem acc_far {w : World} {F : Nat} {a : Option Addr} {n c m : Nat} {xs : List Value} (h : Acc w F 3 1 (.slice a n c) m xs) : 0 < n → ∀ b off, a = some ⟨b, off, none⟩ → F ≤ b := by
  intro hn b off e
  rcases h with ⟨_, _, a', h, _⟩ | h
  · simp only [Value.slice.injEq] at h; omega
  · rcases h.2 with ⟨h', _⟩ | ⟨g, cap, cur, h', hg, _⟩
    · simp only [Value.slice.injEq] at h'; omega
    · simp only [Value.slice.injEq] at h'
      rw [h'.1] at e
      simp only [Option.some.injEq, Addr.mk.injEq, and_true] at e
      omega
theorem undrewR {B : Nat} {w w' : World} (h : Below B w.drew w') : Below B w w' := ⟨h.os, h.tape, h.output, h.size, h.block⟩
theorem wpAnyH_one {P : Program} {ops : Array Oper} {Q : Exit → Act → World → Prop} {md : Region.Mode} {S : World → Prop} {fuel : Nat} {listed : Array Bool} {a : Act} {w : World} {i : Nat} {o : Oper} (hi : ops[i]? = some o) (hr : Region.ready md ops listed = [i]) (hw : Region.wanted o (yielded ops a.tmps) = true)
    (h : ∀ K : Act → World → Prop, (∀ a' w', S w' → wpAnyH P md ops Q S fuel (listed.setIfInBounds i true) a' w' → K a' w') → Oper.wp P o a w K Q) : wpAnyH P md ops Q S (fuel + 1) listed a w := by
  refine wpAnyH_all hr (by simp) fun j hj => ?_
  simp only [List.mem_singleton] at hj
  subst hj
  unfold wpOp
  simp only [hi, hw, if_true]
  exact .inl (h _ fun a' w' h1 h2 => ⟨h1, h2⟩)
theorem wp_call1 {P : Program} {o : Oper} {a : Act} {K : Act → World → Prop} {Q : Exit → Act → World → Prop} {w : World} {f : Nat} {R : Ending → World → Prop} {v : Value} (hc : Calls P f #[v] w R) (hR : ∀ e w', R e w' → ∃ r, e = .returned r) (en : ∀ args w, (callFunc f args).run P w = .ok (.enter f args) w) (s : Operand) (tys : Array TypeId)
    (ho : o.op = .call { callee := .value (.func f), args := #[s], argTypes := tys }) (hs : a.eval s = v) (h : ∀ r w', R (.returned r) w' → K (a.put o.dst r) w') : Oper.wp P o a w K Q := by
  have hx : (execOp a.eval o).run P w = .ok (.enter f #[v]) w := by
    unfold execOp
    have hs' := hs
    simp only [Act.eval] at hs'
    simp [ho, resolve, invoke, go_sem, en]
    first | exact hs' | (rw [← hs]; cases s <;> rfl) | (rw [← hs]; cases s <;> simp [Act.eval])
  unfold Oper.wp
  rw [hx, Oper.upon_enter]
  refine hc.mono fun e w' hr => ?_
  obtain ⟨r, rfl⟩ := hR e w' hr
  exact h r w' hr
theorem acc_setElse {w : World} {F : Nat} {e : TypeId} {size : Nat} {v : Value} {n : Nat} {xs : List Value} (h : Acc w F e size v n xs) {p : Addr} (hp : p.block < F) (u : Value) : Acc (w.setCell p u) F e size v n xs := by
  rcases h with ⟨rfl, rfl, a, rfl, h⟩ | h
  · exact .inl ⟨rfl, rfl, a, rfl, fun x hx => ⟨(h x hx).1, by simpa using (h x hx).2⟩⟩
  · have hbb := (Below.refl 0 w).setCell (p := p) (Nat.zero_le _) u
    refine .inr (h.kept (row := some p.block) ⟨hbb.os, hbb.tape, hbb.output, hbb.size, fun k _ hk => Below.heap_setCell w p u k (fun e => hk (by rw [e]))⟩ ?_)
    cases hv : v.ownBlock with
    | none => exact .inl rfl
    | some k =>
      refine .inr fun e => ?_
      have := (h.lt k hv).1
      simp at e
      omega
/-- One number is appended. -/
theorem wp_acc_int {w : World} {ops : Array Oper} {rest : List Oper} {o : Oper} {a : Act} {Q : Exit → Act → World → Prop} (hgd : o.guard = none) (s x : Operand)
    (ho : o.op = .call { callee := .builtin .append, args := #[s, x], argTypes := #[41, 41] })
    (F : Nat) (v : Value) (n : Nat) (xs : List Int) (hs : a.eval s = v) (hacc : Acc w F 3 1 v n (xs.map (Value.int .i64)))
    (ad : Addr) (c : Nat) (z : Int) (hx : a.eval x = .slice (some ad) 1 c) (hc : w.cell? ad = some (.int .i64 z))
    (hn : n ≤ 1099511627776) (hF : F ≤ w.heap.size)
    (h : ∀ v' w', Acc w' F 3 1 v' (n + 1) ((xs ++ [z]).map (Value.int .i64)) → Below F w w' → wpList Tryd.prog ops Q rest (a.put o.dst v') w') : wpList Tryd.prog ops Q (o :: rest) a w := by
  refine wp_acc hgd s x 41 ho F 3 _ 1 8 Tryd.underlying41 Tryd.infoI rfl (by decide) v n (xs.map (Value.int .i64)) hs hacc ad 1 c [.int .i64 z] hx (by decide) rfl ?_ ?_ (by unfold maxLen; omega) (by omega) hF ?_
  · intro j u hj
    match j, hj with
    | 0, hj => simp at hj; subst hj; simpa [Addr.add] using hc
  · intro u hu; simp at hu; subst hu; rfl
  · intro v' w' h1 h2
    exact h v' w' (by rw [List.map_append]; exact h1) h2
theorem wf_small {z : Int} (h : -1 ≤ z ∧ z ≤ 999999) : (Lit.int .i64 z).wf = true := by
  have e1 : IntKind.i64.min = -9223372036854775808 := by decide
  have e2 : IntKind.i64.max = 9223372036854775807 := by decide
  simp only [Lit.wf, e1, e2, Bool.and_eq_true, decide_eq_true_eq]; omega
theorem wpAnyH_two {P : Program} {ops : Array Oper} {Q : Exit → Act → World → Prop} {md : Region.Mode} {S : World → Prop} {fuel : Nat} {listed : Array Bool} {a : Act} {w : World} {i j : Nat} {o o' : Oper} (hi : ops[i]? = some o) (hj : ops[j]? = some o') (hr : Region.ready md ops listed = [i, j]) (hw : Region.wanted o (yielded ops a.tmps) = true) (hw' : Region.wanted o' (yielded ops a.tmps) = true)
    (h1 : ∀ K : Act → World → Prop, (∀ a' w', S w' → wpAnyH P md ops Q S fuel (listed.setIfInBounds i true) a' w' → K a' w') → Oper.wp P o a w K Q)
    (h2 : ∀ K : Act → World → Prop, (∀ a' w', S w' → wpAnyH P md ops Q S fuel (listed.setIfInBounds j true) a' w' → K a' w') → Oper.wp P o' a w K Q) : wpAnyH P md ops Q S (fuel + 1) listed a w := by
  refine wpAnyH_all hr (by simp) fun k hk => ?_
  simp only [List.mem_cons, List.not_mem_nil, or_false] at hk
  rcases hk with rfl | rfl
  · unfold wpOp
    simp only [hi, hw, if_true]
    exact .inl (h1 _ fun a' w' h1 h2 => ⟨h1, h2⟩)
  · unfold wpOp
    simp only [hj, hw', if_true]
    exact .inl (h2 _ fun a' w' h1 h2 => ⟨h1, h2⟩)
/-- A number is appended, as one step of a region that draws. -/
theorem step_acc_int {o : Oper} {a : Act} {K : Act → World → Prop} {Q : Exit → Act → World → Prop} {w : World} {F : Nat} {v : Value} {n : Nat} {xs : List Int} {z : Int} (hacc : Acc w F 3 1 v n (xs.map (Value.int .i64))) (hF : F ≤ w.heap.size) (hn : n ≤ 1099511627776) (s t : Operand)
    (ho : o.op = .call { callee := .builtin .append, args := #[s, t], argTypes := #[41, 41] }) (hs : a.eval s = v) (ht : a.eval t = .slice (some ⟨w.heap.size, 0, none⟩) 1 1)
    (h : ∀ v' w', Acc w' F 3 1 v' (n + 1) ((xs ++ [z]).map (Value.int .i64)) → Below F (w.alloc (.cells #[.int .i64 z] 3)) w' → K (a.put o.dst v') w') :
    Oper.wp Tryd.prog o a (w.alloc (.cells #[.int .i64 z] 3)) K Q := by
  obtain ⟨i0, hi0, hzz⟩ := Option.map_eq_some_iff.1 Tryd.infoI
  simp only [Prod.mk.injEq] at hzz
  obtain ⟨hz0, hz1, hz2⟩ := hzz
  obtain ⟨v', w', hr, h2, h3, _, _⟩ := run_acc_at (P := Tryd.prog) (w.alloc (.cells #[.int .i64 z] 3)) F 41 o.type 3 i0 _ 1 8 Tryd.underlying41 hi0 hz0 hz1 hz2 rfl (by decide) v n (xs.map (Value.int .i64)) (hacc.alloc _) ⟨w.heap.size, 0, none⟩ 1 1 [.int .i64 z] (by decide) rfl (fun j u hj => by
    match j, hj with
    | 0, hj => simp at hj; subst hj; simp [Addr.add, World.cell?_alloc_new]) (by simp [Value.oneCell']) (by unfold maxLen; omega) (by omega) (by simp; omega)
  unfold Oper.wp execOp
  simp only [ho, resolve, invoke, builtin, Sem.run_bind, Sem.run_pure, Result.andThen_ok, List.map_toArray, List.map_cons, List.map_nil, hs, ht, hr]
  exact h v' w' (.inr (by rw [List.map_append]; exact h2)) h3
theorem have_later {P R : Prop} (h : P → R) (hp : P) : R := h hp
end Cal
end Go.Proofs.YtkemfifkjaclhaaDoor
