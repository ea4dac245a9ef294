/- A plan under way: what is told lies in a row of its own that may begin further in; two more lists of numbers, each in a row of its own. -/
import Derived.Test.YtghocdiddolinaaGreatDoorJ5
import Derived.Test.YtghocdiddolinaaGreatDoorJ7
namespace Go.Proofs.YtghocdiddolinaaGreatDoor
set_option linter.unusedVariables false
set_option linter.unusedSimpArgs false
open Go.RowKit Go
namespace Pl
open Dr (ButO rowB rowB_own rowB_pos)

/-- What is told: nothing, or in a row of its own. -/
def TO (w : World) (F : Nat) (v : Value) (ts : List Tld) : Prop := (ts = [] ∧ ∃ a, v = .slice a 0 0) ∨ OwnOff w F 61 2 v ts.length (flatT ts)
section
variable {w w' : World} {F F' : Nat} {v v' : Value} {ts : List Tld} {t : Tld}
theorem TO.stay (h : TO w F v ts) (hk : ∀ b, rowB v = some b → w'.heap[b]? = w.heap[b]?) : TO w' F v ts := by
  rcases h with h | ⟨g, off, cap, cur, rfl, h1, h2, h3, h4, h5, h6, h7⟩
  · exact .inl h
  · by_cases hc : cap = 0
    · subst hc
      have hn : ts.length = 0 := by omega
      exact .inl ⟨List.length_eq_zero_iff.1 hn, _, by rw [hn]⟩
    · exact .inr ⟨g, off, cap, cur, rfl, h1, (hk g (by simp [rowB, hc])).trans h2, h3, h4, h5, h6, h7⟩
theorem TO.block (h : TO w F v ts) {b : Nat} (hb : rowB v = some b) : F ≤ b ∧ b < w.heap.size ∧ ∃ cur, w.heap[b]? = some (.cells cur 61 (0, 0)) := by
  rcases h with ⟨_, a, rfl⟩ | ⟨g, off, cap, cur, rfl, h1, h2, _⟩
  · exact absurd (rowB_pos hb) (by omega)
  · have := rowB_own hb
    simp only [Value.ownBlock, Option.some.injEq] at this
    subst this
    exact ⟨h1, (Array.getElem?_eq_some_iff.1 h2).1, cur, h2⟩
theorem TO.base (h : TO w F v ts) (hF : F' ≤ F) : TO w F' v ts := by
  rcases h with h | ⟨g, off, cap, cur, e, h1, h2⟩
  · exact .inl h
  · exact .inr ⟨g, off, cap, cur, e, Nat.le_trans hF h1, h2⟩
theorem TO.form (h : TO w F v ts) : ∃ a c, v = .slice a ts.length c := by
  rcases h with ⟨rfl, a, rfl⟩ | ⟨g, off, cap, cur, rfl, _⟩
  · exact ⟨a, 0, rfl⟩
  · exact ⟨_, _, rfl⟩
theorem TO.of_own (h : w.ownsRow F 61 2 v ts.length (flatT ts)) : TO w F v ts := by
  rcases h.2 with ⟨rfl, h0⟩ | ⟨g, cap, cur, rfl, hb, hg, hle, hmx, hsz, htk⟩
  · exact .inl ⟨List.length_eq_zero_iff.1 h0, none, rfl⟩
  · exact .inr ⟨g, 0, cap, cur, rfl, hb, hg, hle, hmx, by omega, h.1, by simpa using htk⟩
theorem TO.is (h : TO w F v ts) (hw : ∀ i (h : i < ts.length), GoodT ts[i]) : ∃ a c, v = .slice a ts.length c ∧ IsTlds w a ts.length c ts := by
  rcases h with ⟨rfl, a, rfl⟩ | h
  · exact ⟨a, 0, rfl, rfl, Nat.le_refl _, Nat.zero_le _, fun h => by simp at h⟩
  · obtain ⟨g1, o1, c1, e1, _, _, hc⟩ := h.cells
    obtain ⟨g, off, cap, cur, rfl, h1, h2, h3, h4, h5, h6, h7⟩ := h
    simp only [Value.slice.injEq, Option.some.injEq, Addr.mk.injEq, and_true, true_and] at e1
    obtain ⟨⟨rfl, rfl⟩, rfl⟩ := e1
    refine ⟨_, cap, rfl, rfl, h3, h4, fun _ => ⟨g, off, rfl, (Array.getElem?_eq_some_iff.1 h2).1, fun i hi => ⟨cellsT ts[i], rfl, fun j hj => ?_, rfl, hw i hi⟩⟩⟩
    have hf := flatT_at ts i j hi (by simpa [cellsT] using hj)
    rw [List.getElem?_eq_getElem hj] at hf
    rw [Nat.add_assoc]
    exact hc _ _ hf
theorem flatT_drop (ts : List Tld) : flatT (ts.drop 1) = (flatT ts).drop 2 := by
  cases ts with
  | nil => rfl
  | cons t r => rfl
/-- All but the first. -/
theorem TO.tail (h : TO w F v ts) (hn : 2 ≤ ts.length) : ∃ g off cap, v = .slice (some ⟨g, off, none⟩) ts.length cap ∧ ts.length ≤ cap ∧ TO w F (.slice (some ⟨g, off + 2, none⟩) (ts.length - 1) (cap - 1)) (ts.drop 1) ∧ rowB (.slice (some ⟨g, off + 2, none⟩) (ts.length - 1) (cap - 1)) = rowB v := by
  rcases h with ⟨rfl, _⟩ | h
  · simp at hn
  · obtain ⟨g, off, cap, cur, rfl, h1⟩ := id h
    have hle := h1.2.2.1
    have ht := h.tail (by omega)
    refine ⟨g, off, cap, rfl, hle, .inr ?_, ?_⟩
    · rw [flatT_drop, List.length_drop]; exact ht
    · simp only [rowB]
      rw [if_neg (by omega), if_neg (by omega)]
/-- One more is told. -/
def PushedT (w : World) (F : Nat) (v : Value) (ts : List Tld) (t : Tld) (v' : Value) (w' : World) : Prop :=
  TO w' F v' (ts ++ [t]) ∧ Below F w w' ∧ (∀ k, k < w.heap.size → rowB v ≠ some k → w'.heap[k]? = w.heap[k]?) ∧ (rowB v' = rowB v ∨ rowB v' = some w.heap.size)
theorem run_pushT (w : World) (F : Nat) (ty : TypeId) (v : Value) (ts : List Tld) (hb : TO w F v ts) (ad : Addr) (c : Nat) (t : Tld) (hc : ∀ j u, (cellsT t)[j]? = some u → w.cell? (ad.add j) = some u) (hn : ts.length ≤ 1099511627776) (hF : F ≤ w.heap.size) :
    ∃ v' w', (Builtin.append_ #[29, 29] ty #[v, .slice (some ad) 1 c]).run Tryz.prog w = .ok v' w' ∧ PushedT w F v ts t v' w' := by
  obtain ⟨i, hi, hzz⟩ := Option.map_eq_some_iff.1 info_PlanTold
  simp only [Prod.mk.injEq] at hzz
  obtain ⟨hz, hsize, hby⟩ := hzz
  have h1 : ∀ u ∈ cellsT t, u.oneCell' = true := by
    intro u hu
    simp only [cellsT, List.mem_cons, List.not_mem_nil, or_false] at hu
    rcases hu with rfl | rfl <;> rfl
  have nil : ∀ a, ts = [] → v = .slice a 0 0 → ∃ v' w', (Builtin.append_ #[29, 29] ty #[v, .slice (some ad) 1 c]).run Tryz.prog w = .ok v' w' ∧ PushedT w F v ts t v' w' := by
    intro a hx hv
    subst hx hv
    have he := append_empty (P := Tryz.prog) w 29 ty 61 i _ Tryz.underlying29 hi hz a ad 1 c (cellsT t) (by rw [hsize]; rfl) hc (by decide) (by omega) (by rw [hby]; omega)
    obtain ⟨v', w', hr, h2, h3, h4, h5⟩ := Cal.run_acc_at (P := Tryz.prog) w F 29 ty 61 i _ 2 16 Tryz.underlying29 hi hz hsize hby rfl (by decide) (.slice none 0 0) 0 [] (Acc.nil _ _ _ _) ad 1 c (cellsT t) (by decide) rfl hc h1 (by unfold maxLen; omega) (by omega) hF
    refine ⟨v', w', he.trans hr, TO.of_own (ts := [t]) (by simpa [flatT] using h2), h3, fun k hk _ => h4 k hk (by simp [Value.ownBlock]), ?_⟩
    rw [Dr.rowB_of_own h2]
    rcases h5 with h5 | h5
    · exact .inl (by rw [h5]; cases a <;> simp [rowB, Value.ownBlock])
    · exact .inr h5
  rcases id hb with ⟨h0, a, h2⟩ | hown
  · exact nil a h0 h2
  · obtain ⟨g, off, cap, cur, rfl, g1, g2, g3, g4, g5, g6, g7⟩ := id hown
    by_cases hcap : cap = 0
    · subst hcap
      have h0 : ts.length = 0 := by omega
      exact nil _ (List.length_eq_zero_iff.1 h0) (by rw [h0])
    · obtain ⟨v', w', hr, h2, h3, h4⟩ := run_append_off (P := Tryz.prog) w F 29 ty 61 i _ 2 16 Tryz.underlying29 hi hz hsize hby rfl (by decide) _ ts.length (flatT ts) hown ad 1 c (cellsT t) (by decide) rfl hc h1 (by unfold maxLen; omega) (by omega) hF
      have e1 : rowB (.slice (some ⟨g, off, none⟩) ts.length cap) = (Value.slice (some ⟨g, off, none⟩) ts.length cap).ownBlock := by simp [rowB, Value.ownBlock, hcap]
      have e2 : rowB v' = v'.ownBlock := by
        obtain ⟨g', off', cap', cur', rfl, k1, k2, k3, k4, k5⟩ := h2
        simp only [rowB, Value.ownBlock]; rw [if_neg (by omega)]
      refine ⟨v', w', hr, .inr (by rw [List.length_append, flatT_app]; simpa [flatT] using h2), (Below.refl F w).grown h3 hF (fun k hk => ?_), fun k hk hne => h3.block k hk (fun e => hne (by rw [e1]; exact e.symm)), by rw [e1, e2]; exact h4⟩
      simp only [Value.ownBlock, Option.some.injEq] at hk
      omega
end
/-- One more number. -/
def PushedI (w : World) (F : Nat) (v : Value) (xs : List Int) (z : Int) (v' : Value) (w' : World) : Prop :=
  ButO w' F v' (xs ++ [z]) ∧ Below F w w' ∧ (∀ k, k < w.heap.size → rowB v ≠ some k → w'.heap[k]? = w.heap[k]?) ∧ (rowB v' = rowB v ∨ rowB v' = some w.heap.size)

theorem wp_pushT {w : World} {ops : Array Oper} {rest : List Oper} {o : Oper} {a : Act} {Q : Exit → Act → World → Prop} (hgd : o.guard = none) (s x : Operand)
    (ho : o.op = .call { callee := .builtin .append, args := #[s, x], argTypes := #[29, 29] })
    (F : Nat) (v : Value) (ts : List Tld) (hs : a.eval s = v) (hacc : TO w F v ts)
    (ad : Addr) (c : Nat) (t : Tld) (hx : a.eval x = .slice (some ad) 1 c) (hc : ∀ j u, (cellsT t)[j]? = some u → w.cell? (ad.add j) = some u)
    (hn : ts.length ≤ 1099511627776) (hF : F ≤ w.heap.size)
    (h : ∀ v' w', PushedT w F v ts t v' w' → wpList Tryz.prog ops Q rest (a.put o.dst v') w') : wpList Tryz.prog ops Q (o :: rest) a w := by
  refine wpList_plain hgd fun K hK => ?_
  obtain ⟨v', w', hr, h2⟩ := run_pushT w F o.type v ts hacc ad c t hc hn hF
  unfold Oper.wp execOp
  simp only [ho, resolve, invoke, builtin, Sem.run_bind, Sem.run_pure, Result.andThen_ok, List.map_toArray, List.map_cons, List.map_nil, hs, hx, hr]
  exact hK _ _ (h v' w' h2)
theorem op_pushT {w : World} {o : Oper} {a : Act} {K : Act → World → Prop} {Q : Exit → Act → World → Prop} (s x : Operand)
    (ho : o.op = .call { callee := .builtin .append, args := #[s, x], argTypes := #[29, 29] })
    (F : Nat) (v : Value) (ts : List Tld) (hs : a.eval s = v) (hacc : TO w F v ts)
    (ad : Addr) (c : Nat) (t : Tld) (hx : a.eval x = .slice (some ad) 1 c) (hc : ∀ j u, (cellsT t)[j]? = some u → w.cell? (ad.add j) = some u)
    (hn : ts.length ≤ 1099511627776) (hF : F ≤ w.heap.size) {d : Option Nat} (hd : o.dst = d)
    (h : ∀ v' w', PushedT w F v ts t v' w' → K (a.put d v') w') : Oper.wp Tryz.prog o a w K Q := by
  obtain ⟨v', w', hr, h2⟩ := run_pushT w F o.type v ts hacc ad c t hc hn hF
  unfold Oper.wp execOp
  simp only [ho, resolve, invoke, builtin, Sem.run_bind, Sem.run_pure, Result.andThen_ok, List.map_toArray, List.map_cons, List.map_nil, hs, hx, hr]
  subst hd
  exact h v' w' h2

/-- What a plan under way gathers, and what was told. -/
structure Und (w : World) (F : Nat) (vg vw vt vo : Value) (gs ws : List Int) (ts os : List Tld) : Prop where
  goes : ButO w F vg gs
  waits : ButO w F vw ws
  told : TO w F vt ts
  out : TO w F vo os
  ap1 : ∀ b, rowB vg = some b → rowB vw ≠ some b
  ap2 : ∀ b, rowB vt = some b → rowB vo ≠ some b
section
variable {w w' : World} {F F' : Nat} {vg vw vt vo v' : Value} {gs ws : List Int} {ts os : List Tld} {t : Tld} {z : Int}
theorem itne : (3 : TypeId) ≠ 61 := by decide
theorem Und.same (h : Und w F vg vw vt vo gs ws ts os) (hs : SameP w w') : Und w' F vg vw vt vo gs ws ts os where
  goes := h.goes.stay hs.size fun b e => by obtain ⟨_, _, c, k⟩ := h.goes.block e; rw [k]; exact hs.rows b c _ _ (.inr (.inl rfl)) k
  waits := h.waits.stay hs.size fun b e => by obtain ⟨_, _, c, k⟩ := h.waits.block e; rw [k]; exact hs.rows b c _ _ (.inr (.inl rfl)) k
  told := h.told.stay fun b e => by obtain ⟨_, _, c, k⟩ := h.told.block e; rw [k]; exact hs.rows b c _ _ (.inr (.inr rfl)) k
  out := h.out.stay fun b e => by obtain ⟨_, _, c, k⟩ := h.out.block e; rw [k]; exact hs.rows b c _ _ (.inr (.inr rfl)) k
  ap1 := h.ap1
  ap2 := h.ap2
theorem Und.below (h : Und w F vg vw vt vo gs ws ts os) (hb : Below w.heap.size w w') : Und w' F vg vw vt vo gs ws ts os := h.same (SameP.below hb)
theorem row_ne {w : World} {b : Nat} {c c' : Array Value} (h : w.heap[b]? = some (.cells c 3 (0, 0))) (k : w.heap[b]? = some (.cells c' 61 (0, 0))) : False := by
  rw [h] at k
  simp only [Option.some.injEq, Obj.cells.injEq] at k
  exact itne k.2.1
theorem Und.pushT (h : Und w F vg vw vt vo gs ws ts os) (hp : PushedT w F vt ts t v' w') : Und w' F vg vw v' vo gs ws (ts ++ [t]) os where
  goes := h.goes.stay hp.2.1.size fun b e => by
    obtain ⟨_, k1, c, k⟩ := h.goes.block e
    exact hp.2.2.1 b k1 fun e2 => by obtain ⟨_, _, c2, k2⟩ := h.told.block e2; exact row_ne k k2
  waits := h.waits.stay hp.2.1.size fun b e => by
    obtain ⟨_, k1, c, k⟩ := h.waits.block e
    exact hp.2.2.1 b k1 fun e2 => by obtain ⟨_, _, c2, k2⟩ := h.told.block e2; exact row_ne k k2
  told := hp.1
  out := h.out.stay fun b e => hp.2.2.1 b (h.out.block e).2.1 fun e2 => h.ap2 b e2 e
  ap1 := h.ap1
  ap2 := fun b e => by
    rcases hp.2.2.2 with k | k
    · exact h.ap2 b (k ▸ e)
    · rw [k] at e; cases e; exact fun e2 => Nat.lt_irrefl _ (h.out.block e2).2.1
theorem Und.pushO (h : Und w F vg vw vt vo gs ws ts os) (hp : PushedT w F vo os t v' w') : Und w' F vg vw vt v' gs ws ts (os ++ [t]) where
  goes := h.goes.stay hp.2.1.size fun b e => by
    obtain ⟨_, k1, c, k⟩ := h.goes.block e
    exact hp.2.2.1 b k1 fun e2 => by obtain ⟨_, _, c2, k2⟩ := h.out.block e2; exact row_ne k k2
  waits := h.waits.stay hp.2.1.size fun b e => by
    obtain ⟨_, k1, c, k⟩ := h.waits.block e
    exact hp.2.2.1 b k1 fun e2 => by obtain ⟨_, _, c2, k2⟩ := h.out.block e2; exact row_ne k k2
  told := h.told.stay fun b e => hp.2.2.1 b (h.told.block e).2.1 fun e2 => h.ap2 b e e2
  out := hp.1
  ap1 := h.ap1
  ap2 := fun b e => by
    rcases hp.2.2.2 with k | k
    · rw [k]; exact h.ap2 b e
    · rw [k]; exact fun e2 => by cases e2; exact Nat.lt_irrefl _ (h.told.block e).2.1
theorem Und.pushG (h : Und w F vg vw vt vo gs ws ts os) (hp : PushedI w F vg gs z v' w') : Und w' F v' vw vt vo (gs ++ [z]) ws ts os where
  goes := hp.1
  waits := h.waits.stay hp.2.1.size fun b e => hp.2.2.1 b (h.waits.block e).2.1 fun e2 => h.ap1 b e2 e
  told := h.told.stay fun b e => by
    obtain ⟨_, k1, c, k⟩ := h.told.block e
    exact hp.2.2.1 b k1 fun e2 => by obtain ⟨_, _, c2, k2⟩ := h.goes.block e2; exact row_ne k2 k
  out := h.out.stay fun b e => by
    obtain ⟨_, k1, c, k⟩ := h.out.block e
    exact hp.2.2.1 b k1 fun e2 => by obtain ⟨_, _, c2, k2⟩ := h.goes.block e2; exact row_ne k2 k
  ap1 := fun b e => by
    rcases hp.2.2.2 with k | k
    · exact h.ap1 b (k ▸ e)
    · rw [k] at e; cases e; exact fun e2 => Nat.lt_irrefl _ (h.waits.block e2).2.1
  ap2 := h.ap2
theorem Und.pushW (h : Und w F vg vw vt vo gs ws ts os) (hp : PushedI w F vw ws z v' w') : Und w' F vg v' vt vo gs (ws ++ [z]) ts os where
  goes := h.goes.stay hp.2.1.size fun b e => hp.2.2.1 b (h.goes.block e).2.1 fun e2 => h.ap1 b e e2
  waits := hp.1
  told := h.told.stay fun b e => by
    obtain ⟨_, k1, c, k⟩ := h.told.block e
    exact hp.2.2.1 b k1 fun e2 => by obtain ⟨_, _, c2, k2⟩ := h.waits.block e2; exact row_ne k2 k
  out := h.out.stay fun b e => by
    obtain ⟨_, k1, c, k⟩ := h.out.block e
    exact hp.2.2.1 b k1 fun e2 => by obtain ⟨_, _, c2, k2⟩ := h.waits.block e2; exact row_ne k2 k
  ap1 := fun b e => by
    rcases hp.2.2.2 with k | k
    · rw [k]; exact h.ap1 b e
    · rw [k]; exact fun e2 => by cases e2; exact Nat.lt_irrefl _ (h.goes.block e).2.1
  ap2 := h.ap2
/-- A list of one number, in a row that is new. -/
theorem Und.oneG (h : Und w F vg vw vt vo gs ws ts os) (hF : F ≤ w.heap.size) : Und (w.alloc (.cells #[.int .i64 z] 3)) F (.slice (some ⟨w.heap.size, 0, none⟩) 1 1) vw vt vo [z] ws ts os where
  goes := .inr ⟨rfl, .inr ⟨w.heap.size, 1, #[.int .i64 z], rfl, hF, heap_alloc_new _ _, Nat.le_refl _, by unfold maxLen; omega, by simp, rfl⟩⟩
  waits := (h.below ((Below.refl _ _).alloc (Nat.le_refl _) _)).waits
  told := (h.below ((Below.refl _ _).alloc (Nat.le_refl _) _)).told
  out := (h.below ((Below.refl _ _).alloc (Nat.le_refl _) _)).out
  ap1 := fun b e => by
    simp only [rowB] at e
    rw [if_neg (by decide)] at e
    cases e
    exact fun e2 => Nat.lt_irrefl _ (h.waits.block e2).2.1
  ap2 := h.ap2
/-- All that was told but the first. -/
theorem Und.tail (h : Und w F vg vw vt vo gs ws ts os) (hn : 2 ≤ ts.length) : ∃ g off cap, vt = .slice (some ⟨g, off, none⟩) ts.length cap ∧ ts.length ≤ cap ∧ Und w F vg vw (.slice (some ⟨g, off + 2, none⟩) (ts.length - 1) (cap - 1)) vo gs ws (ts.drop 1) os := by
  obtain ⟨g, off, cap, e, hle, ht, hr⟩ := h.told.tail hn
  exact ⟨g, off, cap, e, hle, h.goes, h.waits, ht, h.out, h.ap1, fun b e => h.ap2 b (hr ▸ e)⟩
end
end Pl
end Go.Proofs.YtghocdiddolinaaGreatDoor
