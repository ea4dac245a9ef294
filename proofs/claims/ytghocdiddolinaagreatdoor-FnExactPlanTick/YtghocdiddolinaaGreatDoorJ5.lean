/- Rules that were gathered: a row of their own, and of each one's left-out ticks a row of its own. -/
import Derived.Test.YtghocdiddolinaaGreatDoorJ4
import Derived.Test.YtghocdiddolinaaGreatDoorProg
import Derived.Laws.AppendOwn
import Derived.WalkKit
namespace Go.Proofs.YtghocdiddolinaaGreatDoor
set_option linter.unusedVariables false
set_option linter.unusedSimpArgs false
open Go.RowKit Go
namespace Dr

/-- The block of a slice that has room. -/
def rowB : Value → Option Nat
  | .slice (some a) _ c => if c = 0 then none else some a.block
  | _ => none
theorem rowB_own {v : Value} {b : Nat} (h : rowB v = some b) : v.ownBlock = some b := by
  cases v with
  | slice a n c =>
    cases a with
    | none => simp [rowB] at h
    | some x => simp only [rowB] at h; split at h <;> simp_all [Value.ownBlock]
  | _ => simp [rowB] at h
theorem rowB_pos {a : Option Addr} {n c b : Nat} (h : rowB (.slice a n c) = some b) : 0 < c := by
  cases a with
  | none => simp [rowB] at h
  | some x => simp only [rowB] at h; split at h <;> simp_all; omega
def ButO (w : World) (F : Nat) (u : Value) (zs : List Int) : Prop := Acc w F 3 1 u zs.length (zs.map (Value.int .i64))
theorem ButO.stay {w w' : World} {F : Nat} {u : Value} {zs : List Int} (h : ButO w F u zs) (hs : w.heap.size ≤ w'.heap.size) (hk : ∀ b, rowB u = some b → w'.heap[b]? = w.heap[b]?) : ButO w' F u zs := by
  rcases h with ⟨h1, h2, a, rfl, h⟩ | h
  · exact .inl ⟨h1, h2, a, rfl, fun x hx => ⟨(h x hx).1, Nat.lt_of_lt_of_le (h x hx).2 hs⟩⟩
  · obtain ⟨h1, h2⟩ := h
    rcases h2 with ⟨rfl, h2⟩ | ⟨g, cap, cur, rfl, h3, h4, h5, h6, h7, h8⟩
    · exact .inl ⟨h2, List.eq_nil_of_length_eq_zero (by rw [h1, h2, Nat.zero_mul]), none, rfl, fun x hx => by cases hx⟩
    · by_cases hc : cap = 0
      · subst hc
        have hn : zs.length = 0 := by omega
        exact .inl ⟨hn, List.eq_nil_of_length_eq_zero (by rw [h1, hn, Nat.zero_mul]), _, by rw [hn], fun x hx => by cases hx; exact ⟨rfl, Nat.lt_of_lt_of_le (Array.getElem?_eq_some_iff.1 h4).1 hs⟩⟩
      · exact .inr ⟨h1, .inr ⟨g, cap, cur, rfl, h3, (hk g (by simp [rowB, hc])).trans h4, h5, h6, h7, h8⟩⟩
theorem ButO.base {w : World} {F F' : Nat} {u : Value} {zs : List Int} (h : ButO w F u zs) (hF : F' ≤ F) : ButO w F' u zs := by
  rcases h with h | ⟨h1, h2⟩
  · exact .inl h
  · refine .inr ⟨h1, ?_⟩
    rcases h2 with h2 | ⟨g, cap, cur, e, h3, h4⟩
    · exact .inl h2
    · exact .inr ⟨g, cap, cur, e, Nat.le_trans hF h3, h4⟩
/-- Its row's block. -/
theorem ButO.block {w : World} {F : Nat} {u : Value} {zs : List Int} (h : ButO w F u zs) {b : Nat} (hb : rowB u = some b) : F ≤ b ∧ b < w.heap.size ∧ ∃ cur, w.heap[b]? = some (.cells cur 3 (0, 0)) := by
  rcases h with ⟨h1, h2, a, rfl, h⟩ | h
  · exact absurd (rowB_pos hb) (by omega)
  · rcases h.2 with ⟨rfl, h2⟩ | ⟨g, cap, cur, rfl, h3, h4, h5, h6, h7, h8⟩
    · exact absurd (rowB_pos hb) (by omega)
    · have := rowB_own hb
      simp only [Value.ownBlock, Option.some.injEq] at this
      subst this
      exact ⟨h3, (Array.getElem?_eq_some_iff.1 h4).1, cur, h4⟩
theorem ButO.form {w : World} {F : Nat} {u : Value} {zs : List Int} (h : ButO w F u zs) : ∃ a c, u = .slice a zs.length c := by
  rcases h with ⟨h1, h2, a, rfl, h⟩ | h
  · exact ⟨a, 0, by rw [h1]⟩
  · rcases h.2 with ⟨rfl, h2⟩ | ⟨g, cap, cur, rfl, _⟩
    · exact ⟨none, 0, by rw [h2]⟩
    · exact ⟨_, _, rfl⟩
theorem ButO.is {w : World} {F : Nat} {u : Value} {zs : List Int} (h : ButO w F u zs) (hz : ∀ n ∈ zs, (Lit.int .i64 n).wf = true) : ∃ a c, u = .slice a zs.length c ∧ IsRow .i64 w a zs.length c zs ∧ (0 < zs.length → ∀ b off, a = some ⟨b, off, none⟩ → rowB u = some b) := by
  obtain ⟨a, c, rfl⟩ := h.form
  have h1 := Cal.isRow_of_row (Acc.row h) hz
  refine ⟨a, c, rfl, h1.1, fun hl b off e => ?_⟩
  subst e
  have := h1.1.2.1
  simp only [rowB]
  rw [if_neg (by omega)]

theorem rowB_of_own {w : World} {F n : Nat} {e : TypeId} {size : Nat} {v : Value} {xs : List Value} (h : w.ownsRow F e size v (n + 1) xs) : rowB v = v.ownBlock := by
  rcases h.2 with ⟨_, h⟩ | ⟨g, cap, cur, rfl, _, _, h5, _⟩
  · omega
  · simp only [rowB, Value.ownBlock]; rw [if_neg (by omega)]
theorem run_push (w : World) (F : Nat) (ty : TypeId) (v : Value) (xs : List Int) (hb : ButO w F v xs) (ad : Addr) (c : Nat) (z : Int) (hc : w.cell? ad = some (.int .i64 z)) (hn : xs.length ≤ 1099511627776) (hF : F ≤ w.heap.size) :
    ∃ v' w', (Builtin.append_ #[23, 23] ty #[v, .slice (some ad) 1 c]).run Tryz.prog w = .ok v' w' ∧ ButO w' F v' (xs ++ [z]) ∧ Below F w w' ∧ (∀ k, k < w.heap.size → rowB v ≠ some k → w'.heap[k]? = w.heap[k]?) ∧ (rowB v' = rowB v ∨ rowB v' = some w.heap.size) := by
  obtain ⟨i, hi, hzz⟩ := Option.map_eq_some_iff.1 Tryz.infoI
  simp only [Prod.mk.injEq] at hzz
  obtain ⟨hz, hsize, hby⟩ := hzz
  have hnews : ∀ j u, [Value.int .i64 z][j]? = some u → w.cell? (ad.add j) = some u := by
    intro j u hj
    match j, hj with
    | 0, hj => simp at hj; subst hj; simpa [Addr.add] using hc
  have h1 : ∀ u ∈ [Value.int .i64 z], u.oneCell' = true := by intro u hu; simp at hu; subst hu; rfl
  have h63 : xs.length + 1 ≤ maxLen := by unfold maxLen; omega
  have fin : ∀ (u : Value), Acc w F 3 1 u xs.length (xs.map (Value.int .i64)) → (Builtin.append_ #[23, 23] ty #[v, .slice (some ad) 1 c]).run Tryz.prog w = (Builtin.append_ #[23, 23] ty #[u, .slice (some ad) 1 c]).run Tryz.prog w → u.ownBlock = rowB v → ∃ v' w', (Builtin.append_ #[23, 23] ty #[v, .slice (some ad) 1 c]).run Tryz.prog w = .ok v' w' ∧ ButO w' F v' (xs ++ [z]) ∧ Below F w w' ∧ (∀ k, k < w.heap.size → rowB v ≠ some k → w'.heap[k]? = w.heap[k]?) ∧ (rowB v' = rowB v ∨ rowB v' = some w.heap.size) := by
    intro u hu he ho
    obtain ⟨v', w', hr, h2, h3, h4, h5⟩ := Cal.run_acc_at (P := Tryz.prog) w F 23 ty 3 i (.int .i64 0) 1 8 Tryz.underlying23 hi hz hsize hby rfl (by decide) u xs.length (xs.map (Value.int .i64)) hu ad 1 c [.int .i64 z] (by decide) rfl hnews h1 h63 (by omega) hF
    refine ⟨v', w', he.trans hr, .inr (by simpa using h2), h3, fun k hk hne => h4 k hk (by rw [ho]; exact hne), ?_⟩
    rw [rowB_of_own h2, ← ho]; exact h5
  have nil : ∀ a, xs = [] → v = .slice a 0 0 → ∃ v' w', (Builtin.append_ #[23, 23] ty #[v, .slice (some ad) 1 c]).run Tryz.prog w = .ok v' w' ∧ ButO w' F v' (xs ++ [z]) ∧ Below F w w' ∧ (∀ k, k < w.heap.size → rowB v ≠ some k → w'.heap[k]? = w.heap[k]?) ∧ (rowB v' = rowB v ∨ rowB v' = some w.heap.size) := by
    intro a hx hv
    subst hx hv
    refine fin (.slice none 0 0) (Acc.nil _ _ _ _) (append_empty w 23 ty 3 i (.int .i64 0) Tryz.underlying23 hi hz a ad 1 c [.int .i64 z] (by rw [hsize]; rfl) hnews (by decide) (by omega) (by rw [hby]; omega)) ?_
    cases a <;> simp [rowB, Value.ownBlock]
  rcases hb with ⟨h1, h2, a, rfl, _⟩ | hown
  · exact nil a (List.length_eq_zero_iff.1 h1) rfl
  · rcases hown.2 with ⟨rfl, h0⟩ | ⟨g, cap, cur, rfl, g1, g2, g3, g4, g5, g6⟩
    · exact nil none (List.length_eq_zero_iff.1 h0) rfl
    · by_cases hcap : cap = 0
      · subst hcap
        have h0 : xs.length = 0 := by omega
        have hx : xs = [] := List.length_eq_zero_iff.1 h0
        subst hx
        exact nil _ rfl rfl
      · exact fin _ (.inr hown) rfl (by simp [rowB, Value.ownBlock, hcap])

/-- One number is put. -/
theorem wp_push {w : World} {ops : Array Oper} {rest : List Oper} {o : Oper} {a : Act} {Q : Exit → Act → World → Prop} (hgd : o.guard = none) (s x : Operand)
    (ho : o.op = .call { callee := .builtin .append, args := #[s, x], argTypes := #[23, 23] })
    (F : Nat) (v : Value) (xs : List Int) (hs : a.eval s = v) (hacc : ButO w F v xs)
    (ad : Addr) (c : Nat) (z : Int) (hx : a.eval x = .slice (some ad) 1 c) (hc : w.cell? ad = some (.int .i64 z))
    (hn : xs.length ≤ 1099511627776) (hF : F ≤ w.heap.size)
    (h : ∀ v' w', ButO w' F v' (xs ++ [z]) → Below F w w' → (∀ k, k < w.heap.size → rowB v ≠ some k → w'.heap[k]? = w.heap[k]?) → (rowB v' = rowB v ∨ rowB v' = some w.heap.size) → wpList Tryz.prog ops Q rest (a.put o.dst v') w') : wpList Tryz.prog ops Q (o :: rest) a w := by
  refine wpList_plain hgd fun K hK => ?_
  obtain ⟨v', w', hr, h2, h3, h4, h5⟩ := run_push w F o.type v xs hacc ad c z hc hn hF
  unfold Oper.wp execOp
  simp only [ho, resolve, invoke, builtin, Sem.run_bind, Sem.run_pure, Result.andThen_ok, List.map_toArray, List.map_cons, List.map_nil, hs, hx, hr]
  exact hK _ _ (h v' w' h2 h3 h4 h5)
theorem op_push {w : World} {o : Oper} {a : Act} {K : Act → World → Prop} {Q : Exit → Act → World → Prop} (s x : Operand)
    (ho : o.op = .call { callee := .builtin .append, args := #[s, x], argTypes := #[23, 23] })
    (F : Nat) (v : Value) (xs : List Int) (hs : a.eval s = v) (hacc : ButO w F v xs)
    (ad : Addr) (c : Nat) (z : Int) (hx : a.eval x = .slice (some ad) 1 c) (hc : w.cell? ad = some (.int .i64 z))
    (hn : xs.length ≤ 1099511627776) (hF : F ≤ w.heap.size) {d : Option Nat} (hd : o.dst = d)
    (h : ∀ v' w', ButO w' F v' (xs ++ [z]) → Below F w w' → (∀ k, k < w.heap.size → rowB v ≠ some k → w'.heap[k]? = w.heap[k]?) → (rowB v' = rowB v ∨ rowB v' = some w.heap.size) → K (a.put d v') w') : Oper.wp Tryz.prog o a w K Q := by
  obtain ⟨v', w', hr, h2, h3, h4, h5⟩ := run_push w F o.type v xs hacc ad c z hc hn hF
  unfold Oper.wp execOp
  simp only [ho, resolve, invoke, builtin, Sem.run_bind, Sem.run_pure, Result.andThen_ok, List.map_toArray, List.map_cons, List.map_nil, hs, hx, hr]
  subst hd
  exact h v' w' h2 h3 h4 h5
end Dr
end Go.Proofs.YtghocdiddolinaaGreatDoor

namespace Go.Proofs.YtghocdiddolinaaGreatDoor
set_option linter.unusedVariables false
set_option linter.unusedSimpArgs false
open Go.RowKit Go
namespace Pl

theorem run_append_room_off {P : Program} (w : World) (t ty e : TypeId) (i : TypeInfo) (ht : P.underlying t = some (.slice e)) (hi : P.info? e = some i)
    (g off sLen sCap : Nat) (cur : Array Value) (hg : w.heap[g]? = some (.cells cur e (0, 0)))
    (a : Addr) (m c : Nat) (news : List Value) (hl : news.length = m * i.size) (hnews : ∀ j u, news[j]? = some u → w.cell? (a.add j) = some u) (h1 : ∀ u ∈ news, u.oneCell' = true)
    (hroom : sLen + m ≤ sCap) (hfit : off + sLen * i.size + news.length ≤ cur.size) :
    (Builtin.append_ #[t, t] ty #[.slice (some ⟨g, off, none⟩) sLen sCap, .slice (some a) m c]).run P w =
      .ok (.slice (some ⟨g, off, none⟩) (sLen + m) sCap) (w.setRow g (cur.toList.take (off + sLen * i.size) ++ news ++ cur.toList.drop (off + sLen * i.size + news.length)).toArray) := by
  have hf := run_firstCells_some (P := P) w i.size m a m c news hl hnews
  have hst := run_storeCells_at P g (off + sLen * i.size) e news 0 cur w hg (by simpa using hfit) h1
  simp only [Nat.add_zero] at hst
  simp [Builtin.append_, run_underlying ht, sizeOf, typeInfo, hi, Builtin.lenOf, hroom, hf, Addr.add_lit, hst]

/-- A slice of a row of one's own: it may begin further in. -/
def OwnOff (w : World) (base : Nat) (e : TypeId) (size : Nat) (v : Value) (n : Nat) (xs : List Value) : Prop :=
  ∃ g off cap cur, v = .slice (some ⟨g, off, none⟩) n cap ∧ base ≤ g ∧ w.heap[g]? = some (.cells cur e (0, 0)) ∧ n ≤ cap ∧ cap ≤ maxLen ∧ off + cap * size ≤ cur.size ∧ xs.length = n * size ∧ (cur.toList.drop off).take (n * size) = xs

theorem OwnOff.cells {w : World} {base : Nat} {e : TypeId} {size : Nat} {v : Value} {n : Nat} {xs : List Value} (h : OwnOff w base e size v n xs) :
    ∃ g off cap, v = .slice (some ⟨g, off, none⟩) n cap ∧ n ≤ cap ∧ g < w.heap.size ∧ ∀ j u, xs[j]? = some u → w.cell? ⟨g, off + j, none⟩ = some u := by
  obtain ⟨g, off, cap, cur, rfl, hb, hg, hn, hm, hs, hl, ht⟩ := h
  refine ⟨g, off, cap, rfl, hn, (Array.getElem?_eq_some_iff.1 hg).1, fun j u hj => ?_⟩
  rw [cell_of_row w g (off + j) cur e (0, 0) hg]
  rw [← ht, List.getElem?_take] at hj
  split at hj
  · simpa [List.getElem?_drop] using hj
  · cases hj
/-- The first is left out. -/
theorem OwnOff.tail {w : World} {base : Nat} {e : TypeId} {size : Nat} {g off n cap : Nat} {xs : List Value} (h : OwnOff w base e size (.slice (some ⟨g, off, none⟩) n cap) n xs) (hn : 1 ≤ n) :
    OwnOff w base e size (.slice (some ⟨g, off + size, none⟩) (n - 1) (cap - 1)) (n - 1) (xs.drop size) := by
  obtain ⟨g', off', cap', cur, he, hb, hg, hnc, hm, hs, hl, ht⟩ := h
  simp only [Value.slice.injEq, Option.some.injEq, Addr.mk.injEq, true_and] at he
  obtain ⟨⟨rfl, rfl, _⟩, rfl⟩ := he
  have e1 : (n - 1) * size = n * size - size := by rw [Nat.sub_mul, Nat.one_mul]
  have e2 : (cap - 1) * size = cap * size - size := by rw [Nat.sub_mul, Nat.one_mul]
  have h1 : size ≤ n * size := Nat.le_mul_of_pos_left size (by omega)
  have h2 : n * size ≤ cap * size := Nat.mul_le_mul_right size hnc
  refine ⟨g, off + size, cap - 1, cur, rfl, hb, hg, by omega, by omega, by rw [e2]; omega, by rw [List.length_drop, hl, e1], ?_⟩
  rw [← ht, List.drop_take, List.drop_drop, e1]

/-- APPEND: in place where there is room, else in a new row. -/
theorem run_append_off {P : Program} (w : World) (base : Nat) (t ty e : TypeId) (i : TypeInfo) (z : Value) (size bytes : Nat) (ht : P.underlying t = some (.slice e)) (hi : P.info? e = some i) (hz : i.zero = some z)
    (hsize : i.size = size) (hby : i.bytes = bytes) (hzs : z.cells.size = size) (hsz : 0 < size)
    (v : Value) (n : Nat) (xs : List Value) (hown : OwnOff w base e size v n xs)
    (a : Addr) (m c : Nat) (news : List Value) (hm0 : 0 < m) (hl : news.length = m * size) (hnews : ∀ j u, news[j]? = some u → w.cell? (a.add j) = some u) (h1 : ∀ u ∈ news, u.oneCell' = true)
    (h63 : n + m ≤ maxLen) (hbytes : (n + m) * bytes ≤ 140737488355328) (hbase : base ≤ w.heap.size) :
    ∃ v' w', (Builtin.append_ #[t, t] ty #[v, .slice (some a) m c]).run P w = .ok v' w' ∧ OwnOff w' base e size v' (n + m) (xs ++ news) ∧ w.grownBy w' v.ownBlock ∧ (v'.ownBlock = v.ownBlock ∨ v'.ownBlock = some w.heap.size) := by
  subst hsize
  subst hby
  have hcell := hown.cells
  obtain ⟨g, off, cap, cur, rfl, hb, hg, hnc, hcm, hcs, hxl, htk⟩ := hown
  have hsmall : n + m ≤ 9223372036854775807 := by simp only [maxLen] at h63; omega
  by_cases hroom : n + m ≤ cap
  · have hmul : (n + m) * i.size ≤ cap * i.size := Nat.mul_le_mul_right _ hroom
    rw [Nat.add_mul] at hmul
    have hfit : off + n * i.size + news.length ≤ cur.size := by omega
    have hr := run_append_room_off (P := P) w t ty e i ht hi g off n cap cur hg a m c news hl hnews h1 hroom hfit
    refine ⟨_, _, hr, ⟨g, off, cap, _, rfl, hb, setRow_heap w g cur _ e _ hg, hroom, hcm, ?_, ?_, ?_⟩, ⟨rfl, rfl, rfl, by simp, fun k _ hk => setRow_other w g k _ (fun e => hk (by simp [Value.ownBlock, e]))⟩, .inl rfl⟩
    · simp only [List.size_toArray, List.length_append, List.length_take, List.length_drop, Array.length_toList]; omega
    · rw [List.length_append, hxl, hl, Nat.add_mul]
    · have hcl : cur.toList.length = cur.size := Array.length_toList
      have hA : (cur.toList.take (off + n * i.size)).length = off + n * i.size := by rw [List.length_take, hcl]; omega
      have e3 : (cur.toList.take (off + n * i.size)).drop off = xs := by rw [List.drop_take, show off + n * i.size - off = n * i.size by omega]; exact htk
      show ((cur.toList.take (off + n * i.size) ++ news ++ cur.toList.drop (off + n * i.size + news.length)).drop off).take ((n + m) * i.size) = xs ++ news
      rw [List.append_assoc, List.drop_append_of_le_length (by omega), e3, ← List.append_assoc, List.take_append_of_le_length (by rw [List.length_append, hxl, hl, Nat.add_mul]; omega), List.take_of_length_le (by rw [List.length_append, hxl, hl, Nat.add_mul]; omega)]
  · obtain ⟨g', off', cap', he, _, _, hh⟩ := hcell
    simp only [Value.slice.injEq, Option.some.injEq, Addr.mk.injEq, true_and] at he
    obtain ⟨⟨rfl, rfl, _⟩, rfl⟩ := he
    have holds : ∀ j u, xs[j]? = some u → w.cell? ((⟨g, off, none⟩ : Addr).add j) = some u := fun j u hj => by rw [Addr.add_lit]; exact hh j u hj
    have hr := run_append_grow (P := P) w t ty e i z ht hi hz ⟨g, off, none⟩ n cap xs hxl holds a m c news hl hnews (by omega) (by omega) (growslice_fits (by omega) hbytes)
    have hge := grownCap_ge w (n + m) cap e
    have hcm2 : grownCap w (n + m) cap e ≤ maxLen := grownCap_le_maxLen w (n + m) cap e h63
    refine ⟨_, _, hr, ⟨w.heap.size, 0, _, _, rfl, hbase, heap_alloc_new w.drew _, hge, hcm2, ?_, by rw [List.length_append, hxl, hl, Nat.add_mul], ?_⟩, ⟨rfl, rfl, rfl, by simp, fun k hk _ => heap_alloc_old w.drew _ hk⟩, .inr rfl⟩
    · have : (n + m) * i.size ≤ grownCap w (n + m) cap e * i.size := Nat.mul_le_mul_right _ hge
      have e5 : (grownCap w (n + m) cap e - (n + m)) * i.size = grownCap w (n + m) cap e * i.size - (n + m) * i.size := Nat.sub_mul _ _ _
      have e6 : (n + m) * i.size = n * i.size + m * i.size := Nat.add_mul _ _ _
      simp only [Array.size_append, List.size_toArray, List.length_append, size_zeroCells, hzs, hxl, hl]; omega
    · simp only [List.drop_zero]
      have hlen : (xs ++ news).length = (n + m) * i.size := by rw [List.length_append, hxl, hl, Nat.add_mul]
      simp only [Array.toList_append, List.append_assoc]
      rw [← List.append_assoc, ← hlen]
      exact List.take_left
end Pl
end Go.Proofs.YtghocdiddolinaaGreatDoor

namespace Go.Proofs.YtghocdiddolinaaGreatDoor
set_option linter.unusedVariables false
set_option linter.unusedSimpArgs false
open Go.RowKit Go
namespace Cal
/-- What is good in an entry. -/
def GoodR (e : Rul) : Prop := (Lit.int .i64 e.ev).wf = true ∧ (Lit.int .i64 e.at_).wf = true ∧ (Lit.int .i64 e.fr).wf = true ∧ (Lit.int .i64 e.to_).wf = true ∧ ∀ z ∈ e.but, (Lit.int .i64 z).wf = true
/-- The slice v gathers the entries es, in blocks from base on, no two rows in one. -/
def Gath (w : World) (base : Nat) (v : Value) (es : List Rul) : Prop :=
  ∃ vs : List Value, ∃ hv : vs.length = es.length, w.ownsRow base 73 5 v es.length (flatR es vs) ∧
    (∀ i (h : i < es.length), w.ownsRow base 3 1 (vs[i]'(by omega)) es[i].but.length (es[i].but.map (Value.int .i64)) ∧ GoodR es[i]) ∧
    ∀ i j (hi : i < vs.length) (hj : j < vs.length), i < j → ∀ b c, vs[i].ownBlock = some b → vs[j].ownBlock = some c → b < c
theorem Gath.nil (w : World) (base : Nat) : Gath w base (.slice none 0 0) [] := ⟨[], rfl, World.ownsRow_nil _ _ _ _, fun i h => by simp at h, fun i j hi => by simp at hi⟩

/-- What was laid as rows of entries or of numbers stands. -/
structure SameT (W W' : World) : Prop where
  size : W.heap.size ≤ W'.heap.size
  rows : ∀ (k : Nat) (c : Array Value) (fz : Nat × Nat), W.heap[k]? = some (.cells c 73 fz) → W'.heap[k]? = some (.cells c 73 fz)
  nums : ∀ (k : Nat) (c : Array Value) (fz : Nat × Nat), W.heap[k]? = some (.cells c 3 fz) → W'.heap[k]? = some (.cells c 3 fz)
theorem own_rows {w w' : World} {base : Nat} {e : TypeId} {size : Nat} {v : Value} {n : Nat} {xs : List Value} (h : w.ownsRow base e size v n xs) (hk : ∀ (k : Nat) (c : Array Value) (fz : Nat × Nat), w.heap[k]? = some (.cells c e fz) → w'.heap[k]? = some (.cells c e fz)) : w'.ownsRow base e size v n xs := by
  refine ⟨h.1, ?_⟩
  rcases h.2 with h | ⟨g, cap, cur, h1, h2, h3, h4⟩
  · exact .inl h
  · exact .inr ⟨g, cap, cur, h1, h2, hk _ _ _ h3, h4⟩
theorem Gath.same {w w' : World} {base : Nat} {v : Value} {es : List Rul} (h : Gath w base v es) (hs : SameT w w') : Gath w' base v es := by
  obtain ⟨vs, hv, h1, h2, h3⟩ := h
  exact ⟨vs, hv, own_rows h1 hs.rows, fun i hi => ⟨own_rows (h2 i hi).1 hs.nums, (h2 i hi).2⟩, h3⟩
theorem SameT.below {w w' : World} (h : Below w.heap.size w w') : SameT w w' :=
  ⟨h.size, fun k c fz hk => (h.block k (Array.getElem?_eq_some_iff.1 hk).1).trans hk, fun k c fz hk => (h.block k (Array.getElem?_eq_some_iff.1 hk).1).trans hk⟩
theorem SameT.grown {w w' : World} {row : Option Nat} (hg : w.grownBy w' row) (hr : ∀ r, row = some r → ∀ c fz, w.heap[r]? ≠ some (.cells c 73 fz) ∧ w.heap[r]? ≠ some (.cells c 3 fz)) : SameT w w' :=
  ⟨hg.size, fun k c fz hk => (hg.block k (Array.getElem?_eq_some_iff.1 hk).1 (fun e => (hr k e.symm c fz).1 hk)).trans hk, fun k c fz hk => (hg.block k (Array.getElem?_eq_some_iff.1 hk).1 (fun e => (hr k e.symm c fz).2 hk)).trans hk⟩


theorem gath_ruls {w : World} {base : Nat} {v : Value} {es : List Rul} (h : Gath w base v es) : ∃ a cap, v = .slice a es.length cap ∧ IsRuls w a es.length cap es := by
  obtain ⟨vs, hv, h1, h2, _⟩ := h
  have hrow : ∀ i (hi : i < es.length), ∃ a l c, vs[i]'(by omega) = .slice a l c ∧ IsRow .i64 w a l c es[i].but := fun i hi => by
    obtain ⟨h3, h4⟩ := h2 i hi
    have hr := Row.owned h3
    obtain ⟨a, c, hf⟩ := hr.form
    rw [List.length_map] at hf
    rw [hf] at hr
    exact ⟨a, _, c, hf, (isRow_of_row hr h4.2.2.2.2).1⟩
  rcases h1.2 with ⟨rfl, h0⟩ | ⟨g, cap, cur, rfl, hb, hg, hle, hmx, hsz, htk⟩
  · have : es = [] := List.length_eq_zero_iff.1 h0
    subst this
    exact ⟨none, 0, rfl, rfl, Nat.le_refl _, Nat.zero_le _, fun h => by simp at h⟩
  · refine ⟨_, cap, rfl, rfl, hle, hmx, fun _ => ⟨g, 0, rfl, (Array.getElem?_eq_some_iff.1 hg).1, fun i hi => ?_⟩⟩
    obtain ⟨a, l, c, hvi, hri⟩ := hrow i hi
    refine ⟨cellsR es[i] (vs[i]'(by omega)), rfl, fun j hj => ?_, a, l, c, by rw [hvi]; rfl, hri, (h2 i hi).2.1, (h2 i hi).2.2.1, (h2 i hi).2.2.2.1, (h2 i hi).2.2.2.2.1⟩
    · have hj5 : j < 5 := by simpa [cellsR] using hj
      have hf := flatR_at es vs i j hv hi hj5
      rw [List.getElem?_eq_getElem hj] at hf
      rw [cell_of_row _ _ _ _ _ _ hg, Nat.zero_add]
      rw [← htk, List.getElem?_take] at hf
      split at hf
      · simpa using hf
      · cases hf
end Cal
end Go.Proofs.YtghocdiddolinaaGreatDoor
