/- Helpers of the walk of the model's l41Rule. -/
import Derived.Test.YtkemfifkjaclhaaGreatDoorJ3
import Derived.Maps.AppendAt
import Derived.Deep.CutBlock
import Derived.Deep.DeepCutAuto
import Derived.Deep.RegionHeld3
import Derived.OrdersHeld
import Derived.Shelf.Abstract
namespace Go.Proofs.YtkemfifkjaclhaaGreatDoor
set_option linter.unusedVariables false
set_option linter.unusedSimpArgs false
open Go.RowKit Go
namespace Cal

/-- The cells of an entry whose numbers are v4. -/
def cellsR (e : Rul) (v4 : Value) : List Value := [.int .i64 e.ev, .int .i64 e.at_, .int .i64 e.fr, .int .i64 e.to_, v4]
def flatR (es : List Rul) (vs : List Value) : List Value := (List.zipWith cellsR es vs).flatten
theorem flatR_snoc {es : List Rul} {vs : List Value} (h : vs.length = es.length) (e : Rul) (v : Value) : flatR (es ++ [e]) (vs ++ [v]) = flatR es vs ++ cellsR e v := by
  unfold flatR
  rw [List.zipWith_append h.symm]
  simp
theorem flatR_at : ∀ (es : List Rul) (vs : List Value) (i j : Nat) (hv : vs.length = es.length) (hi : i < es.length), j < 5 → (flatR es vs)[i * 5 + j]? = (cellsR es[i] (vs[i]'(by omega)))[j]? := by
  intro es
  induction es with
  | nil => intro vs i j _ hi; simp at hi
  | cons e es ih =>
    intro vs i j hv hi hj
    cases vs with
    | nil => simp at hv
    | cons v vs =>
      have hf : flatR (e :: es) (v :: vs) = cellsR e v ++ flatR es vs := rfl
      rw [hf]
      cases i with
      | zero =>
        rw [List.getElem?_append_left (by simp [cellsR]; omega)]
        simp
      | succ i =>
        rw [List.getElem?_append_right (by simp [cellsR]; omega)]
        have h := ih vs i j (by simpa using hv) (by simpa using hi) hj
        rw [show (i + 1) * 5 + j - (cellsR e v).length = i * 5 + j by simp [cellsR]; omega, h]
        simp

theorem isRow_keep {k : IntKind} {w w' : World} {a : Option Addr} {len cap : Nat} {zs : List Int} (h : IsRow k w a len cap zs) (hs : w.heap.size ≤ w'.heap.size) (hf : 0 < len → ∀ b off, a = some ⟨b, off, none⟩ → w'.heap[b]? = w.heap[b]?) : IsRow k w' a len cap zs := by
  obtain ⟨h1, h2, h3, h4, h5⟩ := h
  refine ⟨h1, h2, h3, fun hl => ?_, h5⟩
  obtain ⟨b, off, rfl, hb1, hc⟩ := h4 hl
  refine ⟨b, off, rfl, Nat.lt_of_lt_of_le hb1 hs, fun i hi => ?_⟩
  rw [← hc i hi]
  exact World.cell?_of_block (a := ⟨b, off + i, none⟩) (hf hl b off rfl)
theorem isRow_lt {k : IntKind} {w : World} {a : Option Addr} {len cap : Nat} {zs : List Int} (h : IsRow k w a len cap zs) (hl : 0 < len) {b off : Nat} (e : a = some ⟨b, off, none⟩) : b < w.heap.size := by
  obtain ⟨h1, h2, h3, h4, h5⟩ := h
  obtain ⟨b', off', e', hb1, _⟩ := h4 hl
  rw [e] at e'
  simp only [Option.some.injEq, Addr.mk.injEq, and_true] at e'
  omega

/-- The slice v gathers the entries es; their numbers lie in other blocks. -/
def GathM (w : World) (F : Nat) (v : Value) (es : List Rul) : Prop :=
  ∃ vs : List Value, ∃ hv : vs.length = es.length, Acc w F 50 5 v es.length (flatR es vs) ∧
    ∀ i (h : i < es.length), RulIs w (cellsR es[i] (vs[i]'(by omega))) es[i] ∧ ∀ a l c, vs[i]'(by omega) = .slice a l c → 0 < l → ∀ b off, a = some ⟨b, off, none⟩ → v.ownBlock ≠ some b
theorem acc_own {w : World} {F : Nat} {e : TypeId} {size : Nat} {v : Value} {n : Nat} {xs : List Value} (h : Acc w F e size v n xs) {k : Nat} (hk : v.ownBlock = some k) : k < w.heap.size := by
  rcases h with ⟨_, _, a, rfl, h⟩ | h
  · cases a with
    | none => simp [Value.ownBlock] at hk
    | some x => simp [Value.ownBlock] at hk; subst hk; exact (h x rfl).2
  · exact (h.lt k hk).2
theorem GathM.below {w w' : World} {F : Nat} {v : Value} {es : List Rul} (h : GathM w F v es) (hb : Below w.heap.size w w') : GathM w' F v es := by
  obtain ⟨vs, hv, h1, h2⟩ := h
  exact ⟨vs, hv, h1.below hb, fun i hi => ⟨RulIs.lasts _ _ _ _ hb (h2 i hi).1, (h2 i hi).2⟩⟩
theorem gathM_push {w w' : World} {F : Nat} {v v' : Value} {es : List Rul} {r : Rul} {a : Option Addr} {l c : Nat} {vs : List Value} (hv : vs.length = es.length)
    (h2 : ∀ i (h : i < es.length), RulIs w (cellsR es[i] (vs[i]'(by omega))) es[i] ∧ ∀ a l c, vs[i]'(by omega) = .slice a l c → 0 < l → ∀ b off, a = some ⟨b, off, none⟩ → v.ownBlock ≠ some b)
    (h3 : RulIs w (cellsR r (.slice a l c)) r) (h4 : 0 < l → ∀ b off, a = some ⟨b, off, none⟩ → v.ownBlock ≠ some b)
    (hA : Acc w' F 50 5 v' (es.length + 1) (flatR es vs ++ cellsR r (.slice a l c))) (hs : w.heap.size ≤ w'.heap.size) (hk : ∀ k, k < w.heap.size → v.ownBlock ≠ some k → w'.heap[k]? = w.heap[k]?) (ho : v'.ownBlock = v.ownBlock ∨ v'.ownBlock = some w.heap.size) : GathM w' F v' (es ++ [r]) := by
  have key : ∀ (x : Rul) (u : Value), RulIs w (cellsR x u) x → (∀ a l c, u = .slice a l c → 0 < l → ∀ b off, a = some ⟨b, off, none⟩ → v.ownBlock ≠ some b) → RulIs w' (cellsR x u) x ∧ ∀ a l c, u = .slice a l c → 0 < l → ∀ b off, a = some ⟨b, off, none⟩ → v'.ownBlock ≠ some b := by
    rintro x u ⟨a, l, c, hu, hr, hz⟩ hf
    have hu' : u = .slice a l c := by simpa [cellsR] using hu
    subst hu'
    have hf' := hf a l c rfl
    refine ⟨⟨a, l, c, hu, isRow_keep hr hs fun hl b off e => hk b (isRow_lt hr hl e) (hf' hl b off e), hz⟩, fun a' l' c' e hl b off ea => ?_⟩
    simp only [Value.slice.injEq] at e
    obtain ⟨rfl, rfl, rfl⟩ := e
    have hlt := isRow_lt hr hl ea
    rcases ho with ho | ho
    · rw [ho]; exact hf' hl b off ea
    · rw [ho]; intro e; cases e; omega
  refine ⟨vs ++ [.slice a l c], by simp [hv], by rw [flatR_snoc hv]; simpa using hA, fun i hi => ?_⟩
  by_cases h : i < es.length
  · rw [List.getElem_append_left (by omega : i < vs.length), List.getElem_append_left h]
    exact key _ _ (h2 i h).1 (h2 i h).2
  · have hie : i = es.length := by simp at hi; omega
    subst hie
    rw [List.getElem_append_right (by omega : vs.length ≤ es.length), List.getElem_append_right (Nat.le_refl _)]
    simp only [Nat.sub_self, List.getElem_cons_zero, hv]
    exact key _ _ h3 (fun a' l' c' e => by simp only [Value.slice.injEq] at e; obtain ⟨rfl, rfl, rfl⟩ := e; exact h4)
theorem gathM_ruls {w : World} {F : Nat} {v : Value} {es : List Rul} (h : GathM w F v es) : ∃ a cap, v = .slice a es.length cap ∧ IsRuls w a es.length cap es := by
  obtain ⟨vs, hv, h1, h2⟩ := h
  rcases h1 with ⟨h0, _, a, rfl, _⟩ | h1
  · have : es = [] := List.length_eq_zero_iff.1 h0
    subst this
    exact ⟨a, 0, rfl, rfl, Nat.le_refl _, Nat.zero_le _, fun h => by simp at h⟩
  · rcases h1.2 with ⟨rfl, h0⟩ | ⟨g, cap, cur, rfl, hb, hg, hle, hmx, hsz, htk⟩
    · have : es = [] := List.length_eq_zero_iff.1 h0
      subst this
      exact ⟨none, 0, rfl, rfl, Nat.le_refl _, Nat.zero_le _, fun h => by simp at h⟩
    · refine ⟨_, cap, rfl, rfl, hle, hmx, fun _ => ⟨g, 0, rfl, (Array.getElem?_eq_some_iff.1 hg).1, fun i hi => ?_⟩⟩
      refine ⟨cellsR es[i] (vs[i]'(by omega)), rfl, fun j hj => ?_, (h2 i hi).1⟩
      have hj5 : j < 5 := by simpa [cellsR] using hj
      have hf := flatR_at es vs i j hv hi hj5
      rw [List.getElem?_eq_getElem hj] at hf
      rw [cell_of_row _ _ _ _ _ _ hg, Nat.zero_add]
      rw [← htk, List.getElem?_take] at hf
      split at hf
      · simpa using hf
      · cases hf

theorem run_acc_at {P : Program} (w : World) (F : Nat) (t ty e : TypeId) (i : TypeInfo) (z : Value) (size bytes : Nat) (ht : P.underlying t = some (.slice e)) (hi : P.info? e = some i) (hz : i.zero = some z)
    (hsize : i.size = size) (hby : i.bytes = bytes) (hzs : z.cells.size = size) (hsz : 0 < size)
    (v : Value) (n : Nat) (xs : List Value) (hacc : Acc w F e size v n xs)
    (a : Addr) (m c : Nat) (news : List Value) (hm : 0 < m) (hl : news.length = m * size) (hnews : ∀ j u, news[j]? = some u → w.cell? (a.add j) = some u) (h1 : ∀ u ∈ news, u.oneCell' = true)
    (h63 : n + m ≤ maxLen) (hbytes : (n + m) * bytes ≤ 140737488355328) (hF : F ≤ w.heap.size) :
    ∃ v' w', (Builtin.append_ #[t, t] ty #[v, .slice (some a) m c]).run P w = .ok v' w' ∧ w'.ownsRow F e size v' (n + m) (xs ++ news) ∧ Below F w w' ∧ (∀ k, k < w.heap.size → v.ownBlock ≠ some k → w'.heap[k]? = w.heap[k]?) ∧ (v'.ownBlock = v.ownBlock ∨ v'.ownBlock = some w.heap.size) := by
  rcases hacc with ⟨rfl, rfl, b, rfl, _⟩ | hown
  · have h63' : (m : Int) ≤ 9223372036854775807 := by unfold maxLen at h63; omega
    rw [append_empty w t ty e i z ht hi hz b a m c news (by rw [hsize]; exact hl) hnews hm h63' (by rw [hby]; simpa using hbytes)]
    obtain ⟨v', w', hr, h2, h3, h4, h5⟩ := run_append_own_at (P := P) w F t ty e i z size bytes ht hi hz hsize hby hzs hsz (.slice none 0 0) 0 [] (World.ownsRow_nil _ _ _ _) a m c news hl hnews h1 h63 hbytes hF
    refine ⟨v', w', hr, h2, (Below.refl F w).grown h3 hF (fun k hk => by cases hk), fun k hk _ => h3.block k hk (by simp [Value.ownBlock]), ?_⟩
    rcases h5 with h5 | h5
    · rcases h2.2 with ⟨rfl, h0⟩ | ⟨g, cap, cur, rfl, _⟩
      · omega
      · simp [Value.ownBlock] at h5
    · exact .inr h5
  · obtain ⟨v', w', hr, h2, h3, h4, h5⟩ := run_append_own_at (P := P) w F t ty e i z size bytes ht hi hz hsize hby hzs hsz v n xs hown a m c news hl hnews h1 h63 hbytes hF
    exact ⟨v', w', hr, h2, (Below.refl F w).grown h3 hF (fun k hk => (hown.lt k hk).1), fun k hk hn => h3.block k hk (fun e => hn e.symm), h5⟩
theorem wp_acc_at {P : Program} {w : World} {ops : Array Oper} {rest : List Oper} {o : Oper} {a : Act} {Q : Exit → Act → World → Prop} (hgd : o.guard = none) (s x : Operand) (t : TypeId)
    (ho : o.op = .call { callee := .builtin .append, args := #[s, x], argTypes := #[t, t] })
    (F : Nat) (e : TypeId) (z : Value) (size bytes : Nat) (ht : P.underlying t = some (.slice e)) (hinfo : (P.info? e).map (fun i => (i.zero, i.size, i.bytes)) = some (some z, size, bytes))
    (hzs : z.cells.size = size) (hsz : 0 < size)
    (v : Value) (n : Nat) (xs : List Value) (hs : a.eval s = v) (hacc : Acc w F e size v n xs)
    (ad : Addr) (m c : Nat) (news : List Value) (hx : a.eval x = .slice (some ad) m c) (hm : 0 < m) (hl : news.length = m * size) (hnews : ∀ j u, news[j]? = some u → w.cell? (ad.add j) = some u) (h1 : ∀ u ∈ news, u.oneCell' = true)
    (h63 : n + m ≤ maxLen) (hbytes : (n + m) * bytes ≤ 140737488355328) (hF : F ≤ w.heap.size)
    (h : ∀ v' w', Acc w' F e size v' (n + m) (xs ++ news) → Below F w w' → (∀ k, k < w.heap.size → v.ownBlock ≠ some k → w'.heap[k]? = w.heap[k]?) → (v'.ownBlock = v.ownBlock ∨ v'.ownBlock = some w.heap.size) → wpList P ops Q rest (a.put o.dst v') w') : wpList P ops Q (o :: rest) a w := by
  obtain ⟨i, hi, hzz⟩ := Option.map_eq_some_iff.1 hinfo
  simp only [Prod.mk.injEq] at hzz
  obtain ⟨hz, hsize, hby⟩ := hzz
  refine wpList_plain hgd fun K hK => ?_
  obtain ⟨v', w', hr, h2, h3, h4, h5⟩ := run_acc_at (P := P) w F t o.type e i z size bytes ht hi hz hsize hby hzs hsz v n xs hacc ad m c news hm hl hnews h1 h63 hbytes hF
  unfold Oper.wp execOp
  simp only [ho, resolve, invoke, builtin, Sem.run_bind, Sem.run_pure, Result.andThen_ok, List.map_toArray, List.map_cons, List.map_nil, hs, hx, hr]
  exact hK _ _ (h v' w' (.inr h2) h3 h4 h5)

theorem isRow_of_row {w : World} {a : Option Addr} {n cap : Nat} {nums : List Int} (h : Row w (.slice a n cap) (nums.map (Value.int .i64))) (hw : ∀ x ∈ nums, (Lit.int .i64 x).wf = true) : IsRow .i64 w a n cap nums ∧ n = nums.length := by
  rcases h with ⟨h, h'⟩ | ⟨b, off, cap', h, h1, h2, hbl, hc⟩
  · simp only [Value.slice.injEq] at h
    obtain ⟨rfl, rfl, rfl⟩ := h
    have : nums = [] := by simpa using h'
    subst this
    exact ⟨⟨rfl, Nat.le_refl _, by unfold maxLen; omega, fun h => by omega, fun n hn => by cases hn⟩, rfl⟩
  · simp only [Value.slice.injEq, List.length_map] at h
    obtain ⟨rfl, rfl, rfl⟩ := h
    rw [List.length_map] at h1
    refine ⟨⟨rfl, h1, h2, fun _ => ⟨b, off, rfl, hbl, fun i hi => ?_⟩, hw⟩, rfl⟩
    exact hc i _ (by rw [List.getElem?_map, List.getElem?_eq_getElem hi, getD_at nums i hi]; rfl)
end Cal
end Go.Proofs.YtkemfifkjaclhaaGreatDoor

namespace Go.Proofs.YtkemfifkjaclhaaGreatDoor
set_option linter.unusedVariables false
set_option linter.unusedSimpArgs false
open Go.RowKit Go
namespace Cal

theorem holds_later {w w' : World} {N B : Nat} {t : TypeId} {cur : Array Value} (h : Holds w N t cur) (hb : Below B w w') (hN : N < B) : Holds w' N t cur := by
  unfold Holds at h ⊢; rw [hb.block N hN]; exact h
theorem five {w : World} {N : Nat} {t : TypeId} {v0 v1 v2 v3 v4 : Value} (h : Holds w N t #[v0, v1, v2, v3, v4]) : w.cell? ⟨N, 0, none⟩ = some v0 ∧ w.cell? ⟨N, 1, none⟩ = some v1 ∧ w.cell? ⟨N, 2, none⟩ = some v2 ∧ w.cell? ⟨N, 3, none⟩ = some v3 ∧ w.cell? ⟨N, 4, none⟩ = some v4 :=
  ⟨by rw [h.cell]; rfl, by rw [h.cell]; rfl, by rw [h.cell]; rfl, by rw [h.cell]; rfl, by rw [h.cell]; rfl⟩
theorem holds_drew {w : World} {N : Nat} {t : TypeId} {cur : Array Value} (h : Holds w N t cur) : Holds w.drew N t cur := h
theorem holds_else {w : World} {N R : Nat} {t : TypeId} {cur : Array Value} (h : Holds w N t cur) (i : Nat) (u : Value) (hne : N ≠ R) : Holds (w.setCell ⟨R, i, none⟩ u) N t cur := by
  unfold Holds at h ⊢; rw [Below.heap_setCell w ⟨R, i, none⟩ u N hne]; exact h
theorem holds_else5 {w : World} {N R : Nat} {t : TypeId} {cur : Array Value} (h : Holds w N t cur) (u0 u1 u2 u3 u4 : Value) (hne : N ≠ R) : Holds (((((w.setCell ⟨R, 0, none⟩ u0).setCell ⟨R, 1, none⟩ u1).setCell ⟨R, 2, none⟩ u2).setCell ⟨R, 3, none⟩ u3).setCell ⟨R, 4, none⟩ u4) N t cur :=
  holds_else (holds_else (holds_else (holds_else (holds_else h 0 u0 hne) 1 u1 hne) 2 u2 hne) 3 u3 hne) 4 u4 hne
theorem isRow_set5far {k : IntKind} {w : World} {a : Option Addr} {len cap : Nat} {zs : List Int} (h : IsRow k w a len cap zs) {N : Nat} (hf : 0 < len → ∀ b off, a = some ⟨b, off, none⟩ → b ≠ N) (v0 v1 v2 v3 v4 : Value) :
    IsRow k (((((w.setCell ⟨N, 0, none⟩ v0).setCell ⟨N, 0 + 1, none⟩ v1).setCell ⟨N, 0 + 2, none⟩ v2).setCell ⟨N, 0 + 3, none⟩ v3).setCell ⟨N, 0 + 4, none⟩ v4) a len cap zs := by
  obtain ⟨h1, h2, h3, h4, h5⟩ := h
  refine ⟨h1, h2, h3, fun hl => ?_, h5⟩
  obtain ⟨b, off, rfl, hb1, hc⟩ := h4 hl
  have hne := hf hl b off rfl
  refine ⟨b, off, rfl, by simpa using hb1, fun i hi => ?_⟩
  rw [← hc i hi]
  refine World.cell?_of_block (a := ⟨b, off + i, none⟩) ?_
  rw [Below.heap_setCell _ ⟨N, 0 + 4, none⟩ v4 b hne, Below.heap_setCell _ ⟨N, 0 + 3, none⟩ v3 b hne, Below.heap_setCell _ ⟨N, 0 + 2, none⟩ v2 b hne, Below.heap_setCell _ ⟨N, 0 + 1, none⟩ v1 b hne, Below.heap_setCell _ ⟨N, 0, none⟩ v0 b hne]
theorem acc_far {w : World} {F : Nat} {a : Option Addr} {n c m : Nat} {xs : List Value} (h : Acc w F 3 1 (.slice a n c) m xs) : 0 < n → ∀ b off, a = some ⟨b, off, none⟩ → F ≤ b := by
  intro hn b off e
  rcases h with ⟨_, _, a', h, _⟩ | h
  · simp only [Value.slice.injEq] at h; omega
  · rcases h.2 with ⟨h', _⟩ | ⟨g, cap, cur, h', hg, _⟩
    · simp only [Value.slice.injEq] at h'; omega
    · simp only [Value.slice.injEq] at h'
      rw [h'.1] at e
      simp only [Option.some.injEq, Addr.mk.injEq, and_true] at e
      omega
theorem undrewR {B : Nat} {w w' : World} (h : Below B w.drew w') : Below B w w' := ⟨h.os, h.tape, h.output, h.size, h.block⟩
theorem wpAnyH_one {P : Program} {ops : Array Oper} {Q : Exit → Act → World → Prop} {md : Region.Mode} {S : World → Prop} {fuel : Nat} {listed : Array Bool} {a : Act} {w : World} {i : Nat} {o : Oper} (hi : ops[i]? = some o) (hr : Region.ready md ops listed = [i]) (hw : Region.wanted o (yielded ops a.tmps) = true)
    (h : ∀ K : Act → World → Prop, (∀ a' w', S w' → wpAnyH P md ops Q S fuel (listed.setIfInBounds i true) a' w' → K a' w') → Oper.wp P o a w K Q) : wpAnyH P md ops Q S (fuel + 1) listed a w := by
  refine wpAnyH_all hr (by simp) fun j hj => ?_
  simp only [List.mem_singleton] at hj
  subst hj
  unfold wpOp
  simp only [hi, hw, if_true]
  exact .inl (h _ fun a' w' h1 h2 => ⟨h1, h2⟩)
theorem wp_call1 {P : Program} {o : Oper} {a : Act} {K : Act → World → Prop} {Q : Exit → Act → World → Prop} {w : World} {f : Nat} {R : Ending → World → Prop} {v : Value} (hc : Calls P f #[v] w R) (hR : ∀ e w', R e w' → ∃ r, e = .returned r) (en : ∀ args w, (callFunc f args).run P w = .ok (.enter f args) w) (s : Operand) (tys : Array TypeId)
    (ho : o.op = .call { callee := .value (.func f), args := #[s], argTypes := tys }) (hs : a.eval s = v) (h : ∀ r w', R (.returned r) w' → K (a.put o.dst r) w') : Oper.wp P o a w K Q := by
  have hx : (execOp a.eval o).run P w = .ok (.enter f #[v]) w := by
    unfold execOp
    have hs' := hs
    simp only [Act.eval] at hs'
    simp [ho, resolve, invoke, go_sem, en]
    first | exact hs' | (rw [← hs]; cases s <;> rfl) | (rw [← hs]; cases s <;> simp [Act.eval])
  unfold Oper.wp
  rw [hx, Oper.upon_enter]
  refine hc.mono fun e w' hr => ?_
  obtain ⟨r, rfl⟩ := hR e w' hr
  exact h r w' hr
theorem acc_setElse {w : World} {F : Nat} {e : TypeId} {size : Nat} {v : Value} {n : Nat} {xs : List Value} (h : Acc w F e size v n xs) {p : Addr} (hp : p.block < F) (u : Value) : Acc (w.setCell p u) F e size v n xs := by
  rcases h with ⟨rfl, rfl, a, rfl, h⟩ | h
  · exact .inl ⟨rfl, rfl, a, rfl, fun x hx => ⟨(h x hx).1, by simpa using (h x hx).2⟩⟩
  · have hbb := (Below.refl 0 w).setCell (p := p) (Nat.zero_le _) u
    refine .inr (h.kept (row := some p.block) ⟨hbb.os, hbb.tape, hbb.output, hbb.size, fun k _ hk => Below.heap_setCell w p u k (fun e => hk (by rw [e]))⟩ ?_)
    cases hv : v.ownBlock with
    | none => exact .inl rfl
    | some k =>
      refine .inr fun e => ?_
      have := (h.lt k hv).1
      simp at e
      omega
/-- One number is appended. -/
theorem wp_acc_int {w : World} {ops : Array Oper} {rest : List Oper} {o : Oper} {a : Act} {Q : Exit → Act → World → Prop} (hgd : o.guard = none) (s x : Operand)
    (ho : o.op = .call { callee := .builtin .append, args := #[s, x], argTypes := #[48, 48] })
    (F : Nat) (v : Value) (n : Nat) (xs : List Int) (hs : a.eval s = v) (hacc : Acc w F 3 1 v n (xs.map (Value.int .i64)))
    (ad : Addr) (c : Nat) (z : Int) (hx : a.eval x = .slice (some ad) 1 c) (hc : w.cell? ad = some (.int .i64 z))
    (hn : n ≤ 1099511627776) (hF : F ≤ w.heap.size)
    (h : ∀ v' w', Acc w' F 3 1 v' (n + 1) ((xs ++ [z]).map (Value.int .i64)) → Below F w w' → wpList Tryz.prog ops Q rest (a.put o.dst v') w') : wpList Tryz.prog ops Q (o :: rest) a w := by
  refine wp_acc hgd s x 48 ho F 3 _ 1 8 Tryz.underlying48 Tryz.infoI rfl (by decide) v n (xs.map (Value.int .i64)) hs hacc ad 1 c [.int .i64 z] hx (by decide) rfl ?_ ?_ (by unfold maxLen; omega) (by omega) hF ?_
  · intro j u hj
    match j, hj with
    | 0, hj => simp at hj; subst hj; simpa [Addr.add] using hc
  · intro u hu; simp at hu; subst hu; rfl
  · intro v' w' h1 h2
    exact h v' w' (by rw [List.map_append]; exact h1) h2
theorem wf_small {z : Int} (h : -1 ≤ z ∧ z ≤ 999999) : (Lit.int .i64 z).wf = true := by
  have e1 : IntKind.i64.min = -9223372036854775808 := by decide
  have e2 : IntKind.i64.max = 9223372036854775807 := by decide
  simp only [Lit.wf, e1, e2, Bool.and_eq_true, decide_eq_true_eq]; omega
theorem wpAnyH_two {P : Program} {ops : Array Oper} {Q : Exit → Act → World → Prop} {md : Region.Mode} {S : World → Prop} {fuel : Nat} {listed : Array Bool} {a : Act} {w : World} {i j : Nat} {o o' : Oper} (hi : ops[i]? = some o) (hj : ops[j]? = some o') (hr : Region.ready md ops listed = [i, j]) (hw : Region.wanted o (yielded ops a.tmps) = true) (hw' : Region.wanted o' (yielded ops a.tmps) = true)
    (h1 : ∀ K : Act → World → Prop, (∀ a' w', S w' → wpAnyH P md ops Q S fuel (listed.setIfInBounds i true) a' w' → K a' w') → Oper.wp P o a w K Q)
    (h2 : ∀ K : Act → World → Prop, (∀ a' w', S w' → wpAnyH P md ops Q S fuel (listed.setIfInBounds j true) a' w' → K a' w') → Oper.wp P o' a w K Q) : wpAnyH P md ops Q S (fuel + 1) listed a w := by
  refine wpAnyH_all hr (by simp) fun k hk => ?_
  simp only [List.mem_cons, List.not_mem_nil, or_false] at hk
  rcases hk with rfl | rfl
  · unfold wpOp
    simp only [hi, hw, if_true]
    exact .inl (h1 _ fun a' w' h1 h2 => ⟨h1, h2⟩)
  · unfold wpOp
    simp only [hj, hw', if_true]
    exact .inl (h2 _ fun a' w' h1 h2 => ⟨h1, h2⟩)
/-- A number is appended, as one step of a region that draws. -/
theorem step_acc_int {o : Oper} {a : Act} {K : Act → World → Prop} {Q : Exit → Act → World → Prop} {w : World} {F : Nat} {v : Value} {n : Nat} {xs : List Int} {z : Int} (hacc : Acc w F 3 1 v n (xs.map (Value.int .i64))) (hF : F ≤ w.heap.size) (hn : n ≤ 1099511627776) (s t : Operand)
    (ho : o.op = .call { callee := .builtin .append, args := #[s, t], argTypes := #[48, 48] }) (hs : a.eval s = v) (ht : a.eval t = .slice (some ⟨w.heap.size, 0, none⟩) 1 1)
    (h : ∀ v' w', Acc w' F 3 1 v' (n + 1) ((xs ++ [z]).map (Value.int .i64)) → Below F (w.alloc (.cells #[.int .i64 z] 3)) w' → K (a.put o.dst v') w') :
    Oper.wp Tryz.prog o a (w.alloc (.cells #[.int .i64 z] 3)) K Q := by
  obtain ⟨i0, hi0, hzz⟩ := Option.map_eq_some_iff.1 Tryz.infoI
  simp only [Prod.mk.injEq] at hzz
  obtain ⟨hz0, hz1, hz2⟩ := hzz
  obtain ⟨v', w', hr, h2, h3, _, _⟩ := run_acc_at (P := Tryz.prog) (w.alloc (.cells #[.int .i64 z] 3)) F 48 o.type 3 i0 _ 1 8 Tryz.underlying48 hi0 hz0 hz1 hz2 rfl (by decide) v n (xs.map (Value.int .i64)) (hacc.alloc _) ⟨w.heap.size, 0, none⟩ 1 1 [.int .i64 z] (by decide) rfl (fun j u hj => by
    match j, hj with
    | 0, hj => simp at hj; subst hj; simp [Addr.add, World.cell?_alloc_new]) (by simp [Value.oneCell']) (by unfold maxLen; omega) (by omega) (by simp; omega)
  unfold Oper.wp execOp
  simp only [ho, resolve, invoke, builtin, Sem.run_bind, Sem.run_pure, Result.andThen_ok, List.map_toArray, List.map_cons, List.map_nil, hs, ht, hr]
  exact h v' w' (.inr (by rw [List.map_append]; exact h2)) h3
theorem have_later {P R : Prop} (h : P → R) (hp : P) : R := h hp
end Cal
end Go.Proofs.YtkemfifkjaclhaaGreatDoor
