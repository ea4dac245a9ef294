/- The reader of drawn inputs: one number more is put to what a rule leaves out. -/
import Derived.Test.YtkemfifkjaclhaaDoorDR7a
namespace Go.Proofs.YtkemfifkjaclhaaDoor
set_option linter.unusedVariables false
set_option linter.unusedSimpArgs false
open Go.RowKit Go
namespace Dr

theorem rowB_of_own {w : World} {F n : Nat} {e : TypeId} {size : Nat} {v : Value} {xs : List Value} (h : w.ownsRow F e size v (n + 1) xs) : rowB v = v.ownBlock := by
  rcases h.2 with ⟨_, h⟩ | ⟨g, cap, cur, rfl, _, _, h5, _⟩
  · omega
  · simp only [rowB, Value.ownBlock]; rw [if_neg (by omega)]
theorem run_push (w : World) (F : Nat) (ty : TypeId) (v : Value) (xs : List Int) (hb : ButO w F v xs) (ad : Addr) (c : Nat) (z : Int) (hc : w.cell? ad = some (.int .i64 z)) (hn : xs.length ≤ 1099511627776) (hF : F ≤ w.heap.size) :
    ∃ v' w', (Builtin.append_ #[41, 41] ty #[v, .slice (some ad) 1 c]).run Tryd.prog w = .ok v' w' ∧ ButO w' F v' (xs ++ [z]) ∧ Below F w w' ∧ (∀ k, k < w.heap.size → rowB v ≠ some k → w'.heap[k]? = w.heap[k]?) ∧ (rowB v' = rowB v ∨ rowB v' = some w.heap.size) := by
  obtain ⟨i, hi, hzz⟩ := Option.map_eq_some_iff.1 Tryd.infoI
  simp only [Prod.mk.injEq] at hzz
  obtain ⟨hz, hsize, hby⟩ := hzz
  have hnews : ∀ j u, [Value.int .i64 z][j]? = some u → w.cell? (ad.add j) = some u := by
    intro j u hj
    match j, hj with
    | 0, hj => simp at hj; subst hj; simpa [Addr.add] using hc
  have h1 : ∀ u ∈ [Value.int .i64 z], u.oneCell' = true := by intro u hu; simp at hu; subst hu; rfl
  have h63 : xs.length + 1 ≤ maxLen := by unfold maxLen; omega
  have fin : ∀ (u : Value), Acc w F 3 1 u xs.length (xs.map (Value.int .i64)) → (Builtin.append_ #[41, 41] ty #[v, .slice (some ad) 1 c]).run Tryd.prog w = (Builtin.append_ #[41, 41] ty #[u, .slice (some ad) 1 c]).run Tryd.prog w → u.ownBlock = rowB v → ∃ v' w', (Builtin.append_ #[41, 41] ty #[v, .slice (some ad) 1 c]).run Tryd.prog w = .ok v' w' ∧ ButO w' F v' (xs ++ [z]) ∧ Below F w w' ∧ (∀ k, k < w.heap.size → rowB v ≠ some k → w'.heap[k]? = w.heap[k]?) ∧ (rowB v' = rowB v ∨ rowB v' = some w.heap.size) := by
    intro u hu he ho
    obtain ⟨v', w', hr, h2, h3, h4, h5⟩ := Cal.run_acc_at (P := Tryd.prog) w F 41 ty 3 i (.int .i64 0) 1 8 Tryd.underlying41 hi hz hsize hby rfl (by decide) u xs.length (xs.map (Value.int .i64)) hu ad 1 c [.int .i64 z] (by decide) rfl hnews h1 h63 (by omega) hF
    refine ⟨v', w', he.trans hr, .inr (by simpa using h2), h3, fun k hk hne => h4 k hk (by rw [ho]; exact hne), ?_⟩
    rw [rowB_of_own h2, ← ho]; exact h5
  have nil : ∀ a, xs = [] → v = .slice a 0 0 → ∃ v' w', (Builtin.append_ #[41, 41] ty #[v, .slice (some ad) 1 c]).run Tryd.prog w = .ok v' w' ∧ ButO w' F v' (xs ++ [z]) ∧ Below F w w' ∧ (∀ k, k < w.heap.size → rowB v ≠ some k → w'.heap[k]? = w.heap[k]?) ∧ (rowB v' = rowB v ∨ rowB v' = some w.heap.size) := by
    intro a hx hv
    subst hx hv
    refine fin (.slice none 0 0) (Acc.nil _ _ _ _) (append_empty w 41 ty 3 i (.int .i64 0) Tryd.underlying41 hi hz a ad 1 c [.int .i64 z] (by rw [hsize]; rfl) hnews (by decide) (by omega) (by rw [hby]; omega)) ?_
    cases a <;> simp [rowB, Value.ownBlock]
  rcases hb with ⟨h1, h2, a, rfl, _⟩ | hown
  · exact nil a (List.length_eq_zero_iff.1 h1) rfl
  · rcases hown.2 with ⟨rfl, h0⟩ | ⟨g, cap, cur, rfl, g1, g2, g3, g4, g5, g6⟩
    · exact nil none (List.length_eq_zero_iff.1 h0) rfl
    · by_cases hcap : cap = 0
      · subst hcap
        have h0 : xs.length = 0 := by omega
        have hx : xs = [] := List.length_eq_zero_iff.1 h0
        subst hx
        exact nil _ rfl rfl
      · exact fin _ (.inr hown) rfl (by simp [rowB, Value.ownBlock, hcap])

/-- One number is put. -/
theorem wp_push {w : World} {ops : Array Oper} {rest : List Oper} {o : Oper} {a : Act} {Q : Exit → Act → World → Prop} (hgd : o.guard = none) (s x : Operand)
    (ho : o.op = .call { callee := .builtin .append, args := #[s, x], argTypes := #[41, 41] })
    (F : Nat) (v : Value) (xs : List Int) (hs : a.eval s = v) (hacc : ButO w F v xs)
    (ad : Addr) (c : Nat) (z : Int) (hx : a.eval x = .slice (some ad) 1 c) (hc : w.cell? ad = some (.int .i64 z))
    (hn : xs.length ≤ 1099511627776) (hF : F ≤ w.heap.size)
    (h : ∀ v' w', ButO w' F v' (xs ++ [z]) → Below F w w' → (∀ k, k < w.heap.size → rowB v ≠ some k → w'.heap[k]? = w.heap[k]?) → (rowB v' = rowB v ∨ rowB v' = some w.heap.size) → wpList Tryd.prog ops Q rest (a.put o.dst v') w') : wpList Tryd.prog ops Q (o :: rest) a w := by
  refine wpList_plain hgd fun K hK => ?_
  obtain ⟨v', w', hr, h2, h3, h4, h5⟩ := run_push w F o.type v xs hacc ad c z hc hn hF
  unfold Oper.wp execOp
  simp only [ho, resolve, invoke, builtin, Sem.run_bind, Sem.run_pure, Result.andThen_ok, List.map_toArray, List.map_cons, List.map_nil, hs, hx, hr]
  exact hK _ _ (h v' w' h2 h3 h4 h5)
theorem op_push {w : World} {o : Oper} {a : Act} {K : Act → World → Prop} {Q : Exit → Act → World → Prop} (s x : Operand)
    (ho : o.op = .call { callee := .builtin .append, args := #[s, x], argTypes := #[41, 41] })
    (F : Nat) (v : Value) (xs : List Int) (hs : a.eval s = v) (hacc : ButO w F v xs)
    (ad : Addr) (c : Nat) (z : Int) (hx : a.eval x = .slice (some ad) 1 c) (hc : w.cell? ad = some (.int .i64 z))
    (hn : xs.length ≤ 1099511627776) (hF : F ≤ w.heap.size) {d : Option Nat} (hd : o.dst = d)
    (h : ∀ v' w', ButO w' F v' (xs ++ [z]) → Below F w w' → (∀ k, k < w.heap.size → rowB v ≠ some k → w'.heap[k]? = w.heap[k]?) → (rowB v' = rowB v ∨ rowB v' = some w.heap.size) → K (a.put d v') w') : Oper.wp Tryd.prog o a w K Q := by
  obtain ⟨v', w', hr, h2, h3, h4, h5⟩ := run_push w F o.type v xs hacc ad c z hc hn hF
  unfold Oper.wp execOp
  simp only [ho, resolve, invoke, builtin, Sem.run_bind, Sem.run_pure, Result.andThen_ok, List.map_toArray, List.map_cons, List.map_nil, hs, hx, hr]
  subst hd
  exact h v' w' h2 h3 h4 h5
end Dr
end Go.Proofs.YtkemfifkjaclhaaDoor
