/- The reader of drawn inputs: one number more is put to what a rule leaves out. -/
import Derived.Test.YtkemfifkjaclhaaGreatDoorJ6
namespace Go.Proofs.YtkemfifkjaclhaaGreatDoor
set_option linter.unusedVariables false
set_option linter.unusedSimpArgs false
open Go.RowKit Go
namespace Dr
open Cal (cellsR flatR flatR_snoc)

/-- The block of a slice that has room. -/
def rowB : Value → Option Nat
  | .slice (some a) _ c => if c = 0 then none else some a.block
  | _ => none
theorem rowB_own {v : Value} {b : Nat} (h : rowB v = some b) : v.ownBlock = some b := by
  cases v with
  | slice a n c =>
    cases a with
    | none => simp [rowB] at h
    | some x => simp only [rowB] at h; split at h <;> simp_all [Value.ownBlock]
  | _ => simp [rowB] at h
theorem rowB_pos {a : Option Addr} {n c b : Nat} (h : rowB (.slice a n c) = some b) : 0 < c := by
  cases a with
  | none => simp [rowB] at h
  | some x => simp only [rowB] at h; split at h <;> simp_all; omega
def FineR (r : Rul) : Prop := ((Lit.int .i64 r.ev).wf = true ∧ (Lit.int .i64 r.at_).wf = true ∧ (Lit.int .i64 r.fr).wf = true ∧ (Lit.int .i64 r.to_).wf = true) ∧ ∀ n ∈ r.but, (Lit.int .i64 n).wf = true
def ButO (w : World) (F : Nat) (u : Value) (zs : List Int) : Prop := Acc w F 3 1 u zs.length (zs.map (Value.int .i64))
theorem ButO.stay {w w' : World} {F : Nat} {u : Value} {zs : List Int} (h : ButO w F u zs) (hs : w.heap.size ≤ w'.heap.size) (hk : ∀ b, rowB u = some b → w'.heap[b]? = w.heap[b]?) : ButO w' F u zs := by
  rcases h with ⟨h1, h2, a, rfl, h⟩ | h
  · exact .inl ⟨h1, h2, a, rfl, fun x hx => ⟨(h x hx).1, Nat.lt_of_lt_of_le (h x hx).2 hs⟩⟩
  · obtain ⟨h1, h2⟩ := h
    rcases h2 with ⟨rfl, h2⟩ | ⟨g, cap, cur, rfl, h3, h4, h5, h6, h7, h8⟩
    · exact .inl ⟨h2, List.eq_nil_of_length_eq_zero (by rw [h1, h2, Nat.zero_mul]), none, rfl, fun x hx => by cases hx⟩
    · by_cases hc : cap = 0
      · subst hc
        have hn : zs.length = 0 := by omega
        exact .inl ⟨hn, List.eq_nil_of_length_eq_zero (by rw [h1, hn, Nat.zero_mul]), _, by rw [hn], fun x hx => by cases hx; exact ⟨rfl, Nat.lt_of_lt_of_le (Array.getElem?_eq_some_iff.1 h4).1 hs⟩⟩
      · exact .inr ⟨h1, .inr ⟨g, cap, cur, rfl, h3, (hk g (by simp [rowB, hc])).trans h4, h5, h6, h7, h8⟩⟩
theorem ButO.base {w : World} {F F' : Nat} {u : Value} {zs : List Int} (h : ButO w F u zs) (hF : F' ≤ F) : ButO w F' u zs := by
  rcases h with h | ⟨h1, h2⟩
  · exact .inl h
  · refine .inr ⟨h1, ?_⟩
    rcases h2 with h2 | ⟨g, cap, cur, e, h3, h4⟩
    · exact .inl h2
    · exact .inr ⟨g, cap, cur, e, Nat.le_trans hF h3, h4⟩
/-- Its row's block. -/
theorem ButO.block {w : World} {F : Nat} {u : Value} {zs : List Int} (h : ButO w F u zs) {b : Nat} (hb : rowB u = some b) : F ≤ b ∧ b < w.heap.size ∧ ∃ cur, w.heap[b]? = some (.cells cur 3 (0, 0)) := by
  rcases h with ⟨h1, h2, a, rfl, h⟩ | h
  · exact absurd (rowB_pos hb) (by omega)
  · rcases h.2 with ⟨rfl, h2⟩ | ⟨g, cap, cur, rfl, h3, h4, h5, h6, h7, h8⟩
    · exact absurd (rowB_pos hb) (by omega)
    · have := rowB_own hb
      simp only [Value.ownBlock, Option.some.injEq] at this
      subst this
      exact ⟨h3, (Array.getElem?_eq_some_iff.1 h4).1, cur, h4⟩
theorem ButO.form {w : World} {F : Nat} {u : Value} {zs : List Int} (h : ButO w F u zs) : ∃ a c, u = .slice a zs.length c := by
  rcases h with ⟨h1, h2, a, rfl, h⟩ | h
  · exact ⟨a, 0, by rw [h1]⟩
  · rcases h.2 with ⟨rfl, h2⟩ | ⟨g, cap, cur, rfl, _⟩
    · exact ⟨none, 0, by rw [h2]⟩
    · exact ⟨_, _, rfl⟩
theorem ButO.is {w : World} {F : Nat} {u : Value} {zs : List Int} (h : ButO w F u zs) (hz : ∀ n ∈ zs, (Lit.int .i64 n).wf = true) : ∃ a c, u = .slice a zs.length c ∧ IsRow .i64 w a zs.length c zs ∧ (0 < zs.length → ∀ b off, a = some ⟨b, off, none⟩ → rowB u = some b) := by
  obtain ⟨a, c, rfl⟩ := h.form
  have h1 := Cal.isRow_of_row (Acc.row h) hz
  refine ⟨a, c, rfl, h1.1, fun hl b off e => ?_⟩
  subst e
  have := h1.1.2.1
  simp only [rowB]
  rw [if_neg (by omega)]

/-- The slice v gathers the rules es; vs are the rows of what each leaves out, each its own. -/
structure GathO (w : World) (F : Nat) (v : Value) (es : List Rul) (vs : List Value) : Prop where
  len : vs.length = es.length
  acc : Acc w F 50 5 v es.length (flatR es vs)
  but : ∀ i (h : i < es.length) (h' : i < vs.length), ButO w F vs[i] es[i].but ∧ FineR es[i]
  apart : ∀ i j (hi : i < vs.length) (hj : j < vs.length), i ≠ j → ∀ b, rowB vs[i] = some b → rowB vs[j] ≠ some b
theorem GathO.nil {w : World} {F : Nat} {v : Value} (h : Acc w F 50 5 v 0 []) : GathO w F v [] [] := ⟨rfl, h, fun i h => by simp at h, fun i j hi => by simp at hi⟩
theorem acc_block {w : World} {F n size : Nat} {t : TypeId} {v : Value} {xs : List Value} (h : Acc w F t size v n xs) (hn : 0 < n) {b : Nat} (hb : v.ownBlock = some b) : ∃ cur, w.heap[b]? = some (.cells cur t (0, 0)) := by
  rcases h with ⟨h, _⟩ | h
  · omega
  · rcases h.2 with ⟨_, h⟩ | ⟨g, cap, cur, rfl, h3, h4, _⟩
    · omega
    · simp only [Value.ownBlock, Option.some.injEq] at hb
      subst hb
      exact ⟨cur, h4⟩
theorem tneq : (50 : TypeId) ≠ 3 := by decide
theorem GathO.far {w : World} {F : Nat} {v : Value} {es : List Rul} {vs : List Value} (h : GathO w F v es vs) {i : Nat} (hi : i < vs.length) {b : Nat} (hb : rowB vs[i] = some b) : v.ownBlock ≠ some b := by
  intro e
  obtain ⟨c1, k1⟩ := acc_block h.acc (by have := h.len; omega) e
  obtain ⟨_, _, c2, k2⟩ := (h.but i (by have := h.len; omega) hi).1.block hb
  rw [k1] at k2
  simp only [Option.some.injEq, Obj.cells.injEq] at k2
  exact tneq k2.2.1
theorem GathO.toD {w : World} {R F : Nat} {v : Value} {es : List Rul} {vs : List Value} (h : GathO w F v es vs) (hR : R < F) : GathD w R F v es := by
  refine ⟨vs, h.len, h.acc, fun i hi => ?_⟩
  have hiv : i < vs.length := by have := h.len; omega
  obtain ⟨h1, h2⟩ := h.but i hi hiv
  obtain ⟨a, c, e, hr, hf⟩ := h1.is h2.2
  refine ⟨⟨a, _, c, by rw [e]; rfl, hr, h2.1⟩, fun a' l' c' e' hl b off eb => ?_⟩
  rw [e] at e'
  simp only [Value.slice.injEq] at e'
  obtain ⟨rfl, rfl, rfl⟩ := e'
  have hb := hf hl b off eb
  exact ⟨h.far hiv hb, by have := (h1.block hb).1; omega⟩
theorem GathO.stay {w w' : World} {F : Nat} {v : Value} {es : List Rul} {vs : List Value} (h : GathO w F v es vs) (hs : w.heap.size ≤ w'.heap.size) (ha : Acc w' F 50 5 v es.length (flatR es vs)) (hk : ∀ i (hi : i < vs.length) b, rowB vs[i] = some b → w'.heap[b]? = w.heap[b]?) : GathO w' F v es vs :=
  ⟨h.len, ha, fun i hi hi' => ⟨(h.but i hi hi').1.stay hs (hk i hi'), (h.but i hi hi').2⟩, h.apart⟩
theorem GathO.below {w w' : World} {F : Nat} {v : Value} {es : List Rul} {vs : List Value} (h : GathO w F v es vs) (hb : Below w.heap.size w w') : GathO w' F v es vs :=
  h.stay hb.size (h.acc.below hb) fun i hi b e => hb.block b ((h.but i (by have := h.len; omega) hi).1.block e).2.1
theorem GathO.keeps {w w' : World} {R F : Nat} {v : Value} {es : List Rul} {vs : List Value} (h : GathO w F v es vs) (hk : Keeps R w w') (hF : R < F) : GathO w' F v es vs :=
  h.stay hk.size (acc_keeps h.acc hk hF) fun i hi b e => by
    have := (h.but i (by have := h.len; omega) hi).1.block e
    exact hk.block b this.2.1 (by omega)

/-- One more is gathered. -/
theorem GathO.push {w w' : World} {F : Nat} {v v' u : Value} {es : List Rul} {r : Rul} {vs : List Value} (h : GathO w F v es vs) (hu : ButO w F u r.but) (hf : FineR r) (hn : ∀ i (hi : i < vs.length) b, rowB vs[i] = some b → rowB u ≠ some b)
    (hA : Acc w' F 50 5 v' (es.length + 1) (flatR es vs ++ cellsR r u)) (hs : w.heap.size ≤ w'.heap.size) (hk : ∀ k, k < w.heap.size → v.ownBlock ≠ some k → w'.heap[k]? = w.heap[k]?) (hz : ∀ b, rowB u = some b → v.ownBlock ≠ some b) : GathO w' F v' (es ++ [r]) (vs ++ [u]) := by
  have hl := h.len
  have b1 : ∀ i (hi : i < vs.length) (hi' : i < es.length), ButO w' F vs[i] es[i].but := fun i hi hi' => (h.but i hi' hi).1.stay hs fun b e => hk b ((h.but i hi' hi).1.block e).2.1 (h.far hi e)
  have b2 : ButO w' F u r.but := hu.stay hs fun b e => hk b (hu.block e).2.1 (hz b e)
  refine ⟨by simp [hl], by rw [flatR_snoc hl]; simpa using hA, fun i hi hi' => ?_, fun i j hi hj hij b e => ?_⟩
  · by_cases hh : i < es.length
    · rw [List.getElem_append_left (by omega : i < vs.length), List.getElem_append_left hh]
      exact ⟨b1 i (by omega) hh, (h.but i hh (by omega)).2⟩
    · have hie : i = es.length := by simp at hi; omega
      subst hie
      rw [List.getElem_append_right (by omega : vs.length ≤ es.length), List.getElem_append_right (Nat.le_refl _)]
      simp only [Nat.sub_self, List.getElem_cons_zero, hl]
      exact ⟨b2, hf⟩
  · by_cases hi2 : i < vs.length
    · rw [List.getElem_append_left hi2] at e
      by_cases hj2 : j < vs.length
      · rw [List.getElem_append_left hj2]; exact h.apart i j hi2 hj2 hij b e
      · rw [List.getElem_append_right (by omega)]
        have hj3 : j - vs.length = 0 := by simp at hj; omega
        simp only [hj3, List.getElem_cons_zero]
        exact hn i hi2 b e
    · have hi3 : i - vs.length = 0 := by simp at hi; omega
      rw [List.getElem_append_right (by omega)] at e
      simp only [hi3, List.getElem_cons_zero] at e
      have hj2 : j < vs.length := by simp at hi hj; omega
      rw [List.getElem_append_left hj2]
      exact fun e2 => hn j hj2 b e2 e

/-- A rule that leaves out one more. -/
def butMore (r : Rul) (z : Int) : Rul := { r with but := r.but ++ [z] }
theorem cellsB (r : Rul) (v u : Value) (z : Int) : (cellsR r v).set 4 u = cellsR (butMore r z) u := rfl
theorem flat_butMore : ∀ (L : List Rul) (vs : List Value) (q : Nat) (_ : vs.length = L.length) (hq : q < L.length) (z : Int) (u : Value),
    (flatR L vs).set (q * 5 + 4) u = flatR (L.set q (butMore L[q] z)) (vs.set q u) := by
  intro L
  induction L with
  | nil => intro vs q _ h; simp at h
  | cons e t ih =>
    intro vs q hv hq z u
    cases vs with
    | nil => simp at hv
    | cons v vs =>
      have hf : ∀ (x : Rul) t (v : Value) vs, flatR (x :: t) (v :: vs) = cellsR x v ++ flatR t vs := fun _ _ _ _ => rfl
      have h5 : ∀ (x : Rul) (v : Value), (cellsR x v).length = 5 := fun _ _ => rfl
      cases q with
      | zero =>
        rw [List.set_cons_zero, List.set_cons_zero, hf, hf, List.set_append_left _ _ (by rw [h5]; omega), Nat.zero_mul, Nat.zero_add]
        rfl
      | succ q =>
        rw [List.set_cons_succ, List.set_cons_succ, hf, hf, List.set_append_right _ _ (by rw [h5]; omega), h5, show (q + 1) * 5 + 4 - 5 = q * 5 + 4 by omega, ih vs q (by simpa using hv) (by simpa using hq) z u]
        rfl
/-- What is left out grows by one, in a row that is still its own; the slice is stored into its rule. -/
theorem GathO.more {w w' : World} {F : Nat} {g cap : Nat} {es : List Rul} {vs : List Value} (h : GathO w F (.slice (some ⟨g, 0, none⟩) es.length cap) es vs) {q : Nat} (hq : q < es.length) (hq' : q < vs.length) {z : Int} (hz : (Lit.int .i64 z).wf = true) {v' : Value}
    (hA : ButO w' F v' (es[q].but ++ [z])) (hs : w.heap.size ≤ w'.heap.size) (hk : ∀ k, k < w.heap.size → rowB vs[q] ≠ some k → w'.heap[k]? = w.heap[k]?) (ho : rowB v' = rowB vs[q] ∨ rowB v' = some w.heap.size) :
    GathO (w'.setCell ⟨g, q * 5 + 4, none⟩ v') F (.slice (some ⟨g, 0, none⟩) es.length cap) (es.set q (butMore es[q] z)) (vs.set q v') := by
  have hl := h.len
  have hown : w.ownsRow F 50 5 (.slice (some ⟨g, 0, none⟩) es.length cap) es.length (flatR es vs) := by
    rcases h.acc with ⟨h0, _⟩ | h
    · omega
    · exact h
  obtain ⟨hfl, hown2⟩ := hown
  rcases hown2 with ⟨h0, _⟩ | ⟨g', cap', cur, h1, h2, h3, h4, h5, h6, h7⟩
  · cases h0
  simp only [Value.slice.injEq, Option.some.injEq, Addr.mk.injEq, and_true, true_and] at h1
  obtain ⟨rfl, rfl⟩ := h1
  have hgs : g < w.heap.size := (Array.getElem?_eq_some_iff.1 h3).1
  have hgq : ∀ i (hi : i < vs.length), rowB vs[i] ≠ some g := fun i hi e => h.far hi e rfl
  have h3' : w'.heap[g]? = some (.cells cur 50 (0, 0)) := (hk g hgs (hgq q hq')).trans h3
  have hset : (w'.setCell ⟨g, q * 5 + 4, none⟩ v').ownsRow F 50 5 (.slice (some ⟨g, 0, none⟩) es.length cap) es.length ((flatR es vs).set (q * 5 + 4) v') := by
    refine ⟨by rw [List.length_set]; exact hfl, .inr ?_⟩
    have hH : Holds w' g 50 cur := h3'
    refine ⟨g, cap, cur.setIfInBounds (q * 5 + 4) v', rfl, h2, hH.set (q * 5 + 4) _, h4, h5, by simpa using h6, ?_⟩
    rw [Array.toList_setIfInBounds, List.take_set, h7]
  rw [flat_butMore es vs q hl hq z v'] at hset
  have hbl : ∀ k, k ≠ g → (w'.setCell ⟨g, q * 5 + 4, none⟩ v').heap[k]? = w'.heap[k]? := fun k e => Below.heap_setCell w' ⟨g, q * 5 + 4, none⟩ v' k e
  have hsz : w.heap.size ≤ (w'.setCell ⟨g, q * 5 + 4, none⟩ v').heap.size := by simpa using hs
  have hv'g : ∀ b, rowB v' = some b → b ≠ g := fun b e => by
    rcases ho with ho | ho
    · rw [ho] at e; exact fun e2 => hgq q hq' (e2 ▸ e)
    · rw [ho] at e; cases e; omega
  refine ⟨by simp [hl], .inr (by rw [List.length_set]; exact hset), fun i hi hi' => ?_, fun i j hi hj hij b e => ?_⟩
  · have hi2 : i < vs.length := by simpa using hi'
    by_cases e : q = i
    · subst e
      rw [List.getElem_set_self, List.getElem_set_self]
      refine ⟨hA.stay (by simp) fun b e => hbl b (hv'g b e), (h.but q hq hq').2.1, fun n hn => ?_⟩
      rcases List.mem_append.1 hn with hn | hn
      · exact (h.but q hq hq').2.2 n hn
      · simp only [List.mem_singleton] at hn; subst hn; exact hz
    · rw [List.getElem_set_ne e, List.getElem_set_ne e]
      refine ⟨(h.but i (by omega) hi2).1.stay hsz fun b eb => ?_, (h.but i (by omega) hi2).2⟩
      rw [hbl b (fun e2 => hgq i hi2 (e2 ▸ eb))]
      exact hk b ((h.but i (by omega) hi2).1.block eb).2.1 (h.apart i q hi2 hq' (Ne.symm e) b eb)
  · have hi2 : i < vs.length := by simpa using hi
    have hj2 : j < vs.length := by simpa using hj
    by_cases eqi : q = i
    · subst eqi
      rw [List.getElem_set_self] at e
      rw [List.getElem_set_ne hij]
      rcases ho with ho | ho
      · exact h.apart q j hi2 hj2 hij b (ho ▸ e)
      · rw [ho] at e
        cases e
        exact fun e2 => by have := ((h.but j (by omega) hj2).1.block e2).2.1; omega
    · rw [List.getElem_set_ne eqi] at e
      by_cases eqj : q = j
      · subst eqj
        rw [List.getElem_set_self]
        intro e2
        rcases ho with ho | ho
        · exact h.apart i q hi2 hj2 hij b e (ho ▸ e2)
        · rw [ho] at e2
          cases e2
          have := ((h.but i (by omega) hi2).1.block e).2.1; omega
      · rw [List.getElem_set_ne eqj]
        exact h.apart i j hi2 hj2 hij b e
theorem GathO.more' {w w' : World} {F : Nat} {g n cap : Nat} {es : List Rul} {vs : List Value} (h : GathO w F (.slice (some ⟨g, 0, none⟩) n cap) es vs) (hn : es.length = n) {q : Nat} (hq : q < es.length) (hq' : q < vs.length) {z : Int} (hz : (Lit.int .i64 z).wf = true) {v' : Value}
    (hA : ButO w' F v' (es[q].but ++ [z])) (hs : w.heap.size ≤ w'.heap.size) (hk : ∀ k, k < w.heap.size → rowB vs[q] ≠ some k → w'.heap[k]? = w.heap[k]?) (ho : rowB v' = rowB vs[q] ∨ rowB v' = some w.heap.size) :
    GathO (w'.setCell ⟨g, q * 5 + 4, none⟩ v') F (.slice (some ⟨g, 0, none⟩) n cap) (es.set q (butMore es[q] z)) (vs.set q v') := by
  subst hn
  exact h.more hq hq' hz hA hs hk ho
end Dr
end Go.Proofs.YtkemfifkjaclhaaGreatDoor

namespace Go.Proofs.YtkemfifkjaclhaaGreatDoor
set_option linter.unusedVariables false
set_option linter.unusedSimpArgs false
open Go.RowKit Go
namespace Dr

theorem rowB_of_own {w : World} {F n : Nat} {e : TypeId} {size : Nat} {v : Value} {xs : List Value} (h : w.ownsRow F e size v (n + 1) xs) : rowB v = v.ownBlock := by
  rcases h.2 with ⟨_, h⟩ | ⟨g, cap, cur, rfl, _, _, h5, _⟩
  · omega
  · simp only [rowB, Value.ownBlock]; rw [if_neg (by omega)]
theorem run_push (w : World) (F : Nat) (ty : TypeId) (v : Value) (xs : List Int) (hb : ButO w F v xs) (ad : Addr) (c : Nat) (z : Int) (hc : w.cell? ad = some (.int .i64 z)) (hn : xs.length ≤ 1099511627776) (hF : F ≤ w.heap.size) :
    ∃ v' w', (Builtin.append_ #[48, 48] ty #[v, .slice (some ad) 1 c]).run Tryz.prog w = .ok v' w' ∧ ButO w' F v' (xs ++ [z]) ∧ Below F w w' ∧ (∀ k, k < w.heap.size → rowB v ≠ some k → w'.heap[k]? = w.heap[k]?) ∧ (rowB v' = rowB v ∨ rowB v' = some w.heap.size) := by
  obtain ⟨i, hi, hzz⟩ := Option.map_eq_some_iff.1 Tryz.infoI
  simp only [Prod.mk.injEq] at hzz
  obtain ⟨hz, hsize, hby⟩ := hzz
  have hnews : ∀ j u, [Value.int .i64 z][j]? = some u → w.cell? (ad.add j) = some u := by
    intro j u hj
    match j, hj with
    | 0, hj => simp at hj; subst hj; simpa [Addr.add] using hc
  have h1 : ∀ u ∈ [Value.int .i64 z], u.oneCell' = true := by intro u hu; simp at hu; subst hu; rfl
  have h63 : xs.length + 1 ≤ maxLen := by unfold maxLen; omega
  have fin : ∀ (u : Value), Acc w F 3 1 u xs.length (xs.map (Value.int .i64)) → (Builtin.append_ #[48, 48] ty #[v, .slice (some ad) 1 c]).run Tryz.prog w = (Builtin.append_ #[48, 48] ty #[u, .slice (some ad) 1 c]).run Tryz.prog w → u.ownBlock = rowB v → ∃ v' w', (Builtin.append_ #[48, 48] ty #[v, .slice (some ad) 1 c]).run Tryz.prog w = .ok v' w' ∧ ButO w' F v' (xs ++ [z]) ∧ Below F w w' ∧ (∀ k, k < w.heap.size → rowB v ≠ some k → w'.heap[k]? = w.heap[k]?) ∧ (rowB v' = rowB v ∨ rowB v' = some w.heap.size) := by
    intro u hu he ho
    obtain ⟨v', w', hr, h2, h3, h4, h5⟩ := Cal.run_acc_at (P := Tryz.prog) w F 48 ty 3 i (.int .i64 0) 1 8 Tryz.underlying48 hi hz hsize hby rfl (by decide) u xs.length (xs.map (Value.int .i64)) hu ad 1 c [.int .i64 z] (by decide) rfl hnews h1 h63 (by omega) hF
    refine ⟨v', w', he.trans hr, .inr (by simpa using h2), h3, fun k hk hne => h4 k hk (by rw [ho]; exact hne), ?_⟩
    rw [rowB_of_own h2, ← ho]; exact h5
  have nil : ∀ a, xs = [] → v = .slice a 0 0 → ∃ v' w', (Builtin.append_ #[48, 48] ty #[v, .slice (some ad) 1 c]).run Tryz.prog w = .ok v' w' ∧ ButO w' F v' (xs ++ [z]) ∧ Below F w w' ∧ (∀ k, k < w.heap.size → rowB v ≠ some k → w'.heap[k]? = w.heap[k]?) ∧ (rowB v' = rowB v ∨ rowB v' = some w.heap.size) := by
    intro a hx hv
    subst hx hv
    refine fin (.slice none 0 0) (Acc.nil _ _ _ _) (append_empty w 48 ty 3 i (.int .i64 0) Tryz.underlying48 hi hz a ad 1 c [.int .i64 z] (by rw [hsize]; rfl) hnews (by decide) (by omega) (by rw [hby]; omega)) ?_
    cases a <;> simp [rowB, Value.ownBlock]
  rcases hb with ⟨h1, h2, a, rfl, _⟩ | hown
  · exact nil a (List.length_eq_zero_iff.1 h1) rfl
  · rcases hown.2 with ⟨rfl, h0⟩ | ⟨g, cap, cur, rfl, g1, g2, g3, g4, g5, g6⟩
    · exact nil none (List.length_eq_zero_iff.1 h0) rfl
    · by_cases hcap : cap = 0
      · subst hcap
        have h0 : xs.length = 0 := by omega
        have hx : xs = [] := List.length_eq_zero_iff.1 h0
        subst hx
        exact nil _ rfl rfl
      · exact fin _ (.inr hown) rfl (by simp [rowB, Value.ownBlock, hcap])

/-- One number is put. -/
theorem wp_push {w : World} {ops : Array Oper} {rest : List Oper} {o : Oper} {a : Act} {Q : Exit → Act → World → Prop} (hgd : o.guard = none) (s x : Operand)
    (ho : o.op = .call { callee := .builtin .append, args := #[s, x], argTypes := #[48, 48] })
    (F : Nat) (v : Value) (xs : List Int) (hs : a.eval s = v) (hacc : ButO w F v xs)
    (ad : Addr) (c : Nat) (z : Int) (hx : a.eval x = .slice (some ad) 1 c) (hc : w.cell? ad = some (.int .i64 z))
    (hn : xs.length ≤ 1099511627776) (hF : F ≤ w.heap.size)
    (h : ∀ v' w', ButO w' F v' (xs ++ [z]) → Below F w w' → (∀ k, k < w.heap.size → rowB v ≠ some k → w'.heap[k]? = w.heap[k]?) → (rowB v' = rowB v ∨ rowB v' = some w.heap.size) → wpList Tryz.prog ops Q rest (a.put o.dst v') w') : wpList Tryz.prog ops Q (o :: rest) a w := by
  refine wpList_plain hgd fun K hK => ?_
  obtain ⟨v', w', hr, h2, h3, h4, h5⟩ := run_push w F o.type v xs hacc ad c z hc hn hF
  unfold Oper.wp execOp
  simp only [ho, resolve, invoke, builtin, Sem.run_bind, Sem.run_pure, Result.andThen_ok, List.map_toArray, List.map_cons, List.map_nil, hs, hx, hr]
  exact hK _ _ (h v' w' h2 h3 h4 h5)
theorem op_push {w : World} {o : Oper} {a : Act} {K : Act → World → Prop} {Q : Exit → Act → World → Prop} (s x : Operand)
    (ho : o.op = .call { callee := .builtin .append, args := #[s, x], argTypes := #[48, 48] })
    (F : Nat) (v : Value) (xs : List Int) (hs : a.eval s = v) (hacc : ButO w F v xs)
    (ad : Addr) (c : Nat) (z : Int) (hx : a.eval x = .slice (some ad) 1 c) (hc : w.cell? ad = some (.int .i64 z))
    (hn : xs.length ≤ 1099511627776) (hF : F ≤ w.heap.size) {d : Option Nat} (hd : o.dst = d)
    (h : ∀ v' w', ButO w' F v' (xs ++ [z]) → Below F w w' → (∀ k, k < w.heap.size → rowB v ≠ some k → w'.heap[k]? = w.heap[k]?) → (rowB v' = rowB v ∨ rowB v' = some w.heap.size) → K (a.put d v') w') : Oper.wp Tryz.prog o a w K Q := by
  obtain ⟨v', w', hr, h2, h3, h4, h5⟩ := run_push w F o.type v xs hacc ad c z hc hn hF
  unfold Oper.wp execOp
  simp only [ho, resolve, invoke, builtin, Sem.run_bind, Sem.run_pure, Result.andThen_ok, List.map_toArray, List.map_cons, List.map_nil, hs, hx, hr]
  subst hd
  exact h v' w' h2 h3 h4 h5
end Dr
end Go.Proofs.YtkemfifkjaclhaaGreatDoor
