/- The law's marks: texts and rows of numbers. -/
import Derived.Test.YtbngjpnbjknliaaGreatDoorJ6
import Derived.Test.YtbngjpnbjknliaaGreatDoorJ18
import Derived.Maps.AppendAt
import Derived.Test.YtbngjpnbjknliaaGreatDoorJ1
import Derived.WalkKit
import Derived.WalkSpells
import Derived.WalkLawsBesides
import Derived.Deep.OwnRows
import Derived.Test.YtbngjpnbjknliaaGreatDoorJ2
import Derived.Test.YtbngjpnbjknliaaGreatDoorJ17
namespace Go.Proofs.YtbngjpnbjknliaaGreatDoor
set_option linter.unusedVariables false
set_option linter.unusedSimpArgs false
open Go.RowKit Go

theorem isRow_keep {k : IntKind} {w w' : World} {a : Option Addr} {len cap : Nat} {zs : List Int} (h : IsRow k w a len cap zs) (hs : w.heap.size ≤ w'.heap.size) (hf : 0 < len → ∀ b off, a = some ⟨b, off, none⟩ → w'.heap[b]? = w.heap[b]?) : IsRow k w' a len cap zs := by
  obtain ⟨h1, h2, h3, h4, h5⟩ := h
  refine ⟨h1, h2, h3, fun hl => ?_, h5⟩
  obtain ⟨b, off, rfl, hb1, hc⟩ := h4 hl
  refine ⟨b, off, rfl, Nat.lt_of_lt_of_le hb1 hs, fun i hi => ?_⟩
  rw [← hc i hi]
  exact World.cell?_of_block (a := ⟨b, off + i, none⟩) (hf hl b off rfl)
theorem isRow_lt {k : IntKind} {w : World} {a : Option Addr} {len cap : Nat} {zs : List Int} (h : IsRow k w a len cap zs) (hl : 0 < len) {b off : Nat} (e : a = some ⟨b, off, none⟩) : b < w.heap.size := by
  obtain ⟨h1, h2, h3, h4, h5⟩ := h
  obtain ⟨b', off', e', hb1, _⟩ := h4 hl
  rw [e] at e'
  simp only [Option.some.injEq, Addr.mk.injEq, and_true] at e'
  omega

/-- The slice v gathers the entries es; their numbers lie in other blocks. -/
def GathM (w : World) (F : Nat) (v : Value) (es : List Ent) : Prop :=
  ∃ vs : List Value, ∃ hv : vs.length = es.length, Acc w F 32 5 v es.length (flatE es vs) ∧
    ∀ i (h : i < es.length), EntIs w (cellsE es[i] (vs[i]'(by omega))) es[i] ∧ ∀ a l c, vs[i]'(by omega) = .slice a l c → 0 < l → ∀ b off, a = some ⟨b, off, none⟩ → v.ownBlock ≠ some b
theorem acc_own {w : World} {F : Nat} {e : TypeId} {size : Nat} {v : Value} {n : Nat} {xs : List Value} (h : Acc w F e size v n xs) {k : Nat} (hk : v.ownBlock = some k) : k < w.heap.size := by
  rcases h with ⟨_, _, a, rfl, h⟩ | h
  · cases a with
    | none => simp [Value.ownBlock] at hk
    | some x => simp [Value.ownBlock] at hk; subst hk; exact (h x rfl).2
  · exact (h.lt k hk).2
theorem GathM.below {w w' : World} {F : Nat} {v : Value} {es : List Ent} (h : GathM w F v es) (hb : Below w.heap.size w w') : GathM w' F v es := by
  obtain ⟨vs, hv, h1, h2⟩ := h
  exact ⟨vs, hv, h1.below hb, fun i hi => ⟨EntIs.lasts _ _ _ _ hb (h2 i hi).1, (h2 i hi).2⟩⟩
theorem gathM_push {w w' : World} {F : Nat} {v v' : Value} {es : List Ent} {r : Ent} {a : Option Addr} {l c : Nat} {vs : List Value} (hv : vs.length = es.length)
    (h2 : ∀ i (h : i < es.length), EntIs w (cellsE es[i] (vs[i]'(by omega))) es[i] ∧ ∀ a l c, vs[i]'(by omega) = .slice a l c → 0 < l → ∀ b off, a = some ⟨b, off, none⟩ → v.ownBlock ≠ some b)
    (h3 : EntIs w (cellsE r (.slice a l c)) r) (h4 : 0 < l → ∀ b off, a = some ⟨b, off, none⟩ → v.ownBlock ≠ some b)
    (hA : Acc w' F 32 5 v' (es.length + 1) (flatE es vs ++ cellsE r (.slice a l c))) (hs : w.heap.size ≤ w'.heap.size) (hk : ∀ k, k < w.heap.size → v.ownBlock ≠ some k → w'.heap[k]? = w.heap[k]?) (ho : v'.ownBlock = v.ownBlock ∨ v'.ownBlock = some w.heap.size) : GathM w' F v' (es ++ [r]) := by
  have key : ∀ (x : Ent) (u : Value), EntIs w (cellsE x u) x → (∀ a l c, u = .slice a l c → 0 < l → ∀ b off, a = some ⟨b, off, none⟩ → v.ownBlock ≠ some b) → EntIs w' (cellsE x u) x ∧ ∀ a l c, u = .slice a l c → 0 < l → ∀ b off, a = some ⟨b, off, none⟩ → v'.ownBlock ≠ some b := by
    rintro x u ⟨a, l, c, hu, hr, hz⟩ hf
    have hu' : u = .slice a l c := by simpa [cellsE] using hu
    subst hu'
    have hf' := hf a l c rfl
    refine ⟨⟨a, l, c, hu, isRow_keep hr hs fun hl b off e => hk b (isRow_lt hr hl e) (hf' hl b off e), hz⟩, fun a' l' c' e hl b off ea => ?_⟩
    simp only [Value.slice.injEq] at e
    obtain ⟨rfl, rfl, rfl⟩ := e
    have hlt := isRow_lt hr hl ea
    rcases ho with ho | ho
    · rw [ho]; exact hf' hl b off ea
    · rw [ho]; intro e; cases e; omega
  refine ⟨vs ++ [.slice a l c], by simp [hv], by rw [flatE_snoc hv]; simpa using hA, fun i hi => ?_⟩
  by_cases h : i < es.length
  · rw [List.getElem_append_left (by omega : i < vs.length), List.getElem_append_left h]
    exact key _ _ (h2 i h).1 (h2 i h).2
  · have hie : i = es.length := by simp at hi; omega
    subst hie
    rw [List.getElem_append_right (by omega : vs.length ≤ es.length), List.getElem_append_right (Nat.le_refl _)]
    simp only [Nat.sub_self, List.getElem_cons_zero, hv]
    exact key _ _ h3 (fun a' l' c' e => by simp only [Value.slice.injEq] at e; obtain ⟨rfl, rfl, rfl⟩ := e; exact h4)
theorem gathM_ents {w : World} {F : Nat} {v : Value} {es : List Ent} (h : GathM w F v es) : ∃ a cap, v = .slice a es.length cap ∧ IsEnts w a es.length cap es := by
  obtain ⟨vs, hv, h1, h2⟩ := h
  rcases h1 with ⟨h0, _, a, rfl, _⟩ | h1
  · have : es = [] := List.length_eq_zero_iff.1 h0
    subst this
    exact ⟨a, 0, rfl, rfl, Nat.le_refl _, Nat.zero_le _, fun h => by simp at h⟩
  · rcases h1.2 with ⟨rfl, h0⟩ | ⟨g, cap, cur, rfl, hb, hg, hle, hmx, hsz, htk⟩
    · have : es = [] := List.length_eq_zero_iff.1 h0
      subst this
      exact ⟨none, 0, rfl, rfl, Nat.le_refl _, Nat.zero_le _, fun h => by simp at h⟩
    · refine ⟨_, cap, rfl, rfl, hle, hmx, fun _ => ⟨g, 0, rfl, (Array.getElem?_eq_some_iff.1 hg).1, fun i hi => ?_⟩⟩
      refine ⟨cellsE es[i] (vs[i]'(by omega)), rfl, fun j hj => ?_, (h2 i hi).1⟩
      have hj5 : j < 5 := by simpa [cellsE] using hj
      have hf := flatE_at es vs i j hv hi hj5
      rw [List.getElem?_eq_getElem hj] at hf
      rw [cell_of_row _ _ _ _ _ _ hg, Nat.zero_add]
      rw [← htk, List.getElem?_take] at hf
      split at hf
      · simpa using hf
      · cases hf

theorem run_acc_at {P : Program} (w : World) (F : Nat) (t ty e : TypeId) (i : TypeInfo) (z : Value) (size bytes : Nat) (ht : P.underlying t = some (.slice e)) (hi : P.info? e = some i) (hz : i.zero = some z)
    (hsize : i.size = size) (hby : i.bytes = bytes) (hzs : z.cells.size = size) (hsz : 0 < size)
    (v : Value) (n : Nat) (xs : List Value) (hacc : Acc w F e size v n xs)
    (a : Addr) (m c : Nat) (news : List Value) (hm : 0 < m) (hl : news.length = m * size) (hnews : ∀ j u, news[j]? = some u → w.cell? (a.add j) = some u) (h1 : ∀ u ∈ news, u.oneCell' = true)
    (h63 : n + m ≤ maxLen) (hbytes : (n + m) * bytes ≤ 140737488355328) (hF : F ≤ w.heap.size) :
    ∃ v' w', (Builtin.append_ #[t, t] ty #[v, .slice (some a) m c]).run P w = .ok v' w' ∧ w'.ownsRow F e size v' (n + m) (xs ++ news) ∧ Below F w w' ∧ (∀ k, k < w.heap.size → v.ownBlock ≠ some k → w'.heap[k]? = w.heap[k]?) ∧ (v'.ownBlock = v.ownBlock ∨ v'.ownBlock = some w.heap.size) := by
  rcases hacc with ⟨rfl, rfl, b, rfl, _⟩ | hown
  · have h63' : (m : Int) ≤ 9223372036854775807 := by unfold maxLen at h63; omega
    rw [append_empty w t ty e i z ht hi hz b a m c news (by rw [hsize]; exact hl) hnews hm h63' (by rw [hby]; simpa using hbytes)]
    obtain ⟨v', w', hr, h2, h3, h4, h5⟩ := run_append_own_at (P := P) w F t ty e i z size bytes ht hi hz hsize hby hzs hsz (.slice none 0 0) 0 [] (World.ownsRow_nil _ _ _ _) a m c news hl hnews h1 h63 hbytes hF
    refine ⟨v', w', hr, h2, (Below.refl F w).grown h3 hF (fun k hk => by cases hk), fun k hk _ => h3.block k hk (by simp [Value.ownBlock]), ?_⟩
    rcases h5 with h5 | h5
    · rcases h2.2 with ⟨rfl, h0⟩ | ⟨g, cap, cur, rfl, _⟩
      · omega
      · simp [Value.ownBlock] at h5
    · exact .inr h5
  · obtain ⟨v', w', hr, h2, h3, h4, h5⟩ := run_append_own_at (P := P) w F t ty e i z size bytes ht hi hz hsize hby hzs hsz v n xs hown a m c news hl hnews h1 h63 hbytes hF
    exact ⟨v', w', hr, h2, (Below.refl F w).grown h3 hF (fun k hk => (hown.lt k hk).1), fun k hk hn => h3.block k hk (fun e => hn e.symm), h5⟩
theorem wp_acc_at {P : Program} {w : World} {ops : Array Oper} {rest : List Oper} {o : Oper} {a : Act} {Q : Exit → Act → World → Prop} (hgd : o.guard = none) (s x : Operand) (t : TypeId)
    (ho : o.op = .call { callee := .builtin .append, args := #[s, x], argTypes := #[t, t] })
    (F : Nat) (e : TypeId) (z : Value) (size bytes : Nat) (ht : P.underlying t = some (.slice e)) (hinfo : (P.info? e).map (fun i => (i.zero, i.size, i.bytes)) = some (some z, size, bytes))
    (hzs : z.cells.size = size) (hsz : 0 < size)
    (v : Value) (n : Nat) (xs : List Value) (hs : a.eval s = v) (hacc : Acc w F e size v n xs)
    (ad : Addr) (m c : Nat) (news : List Value) (hx : a.eval x = .slice (some ad) m c) (hm : 0 < m) (hl : news.length = m * size) (hnews : ∀ j u, news[j]? = some u → w.cell? (ad.add j) = some u) (h1 : ∀ u ∈ news, u.oneCell' = true)
    (h63 : n + m ≤ maxLen) (hbytes : (n + m) * bytes ≤ 140737488355328) (hF : F ≤ w.heap.size)
    (h : ∀ v' w', Acc w' F e size v' (n + m) (xs ++ news) → Below F w w' → (∀ k, k < w.heap.size → v.ownBlock ≠ some k → w'.heap[k]? = w.heap[k]?) → (v'.ownBlock = v.ownBlock ∨ v'.ownBlock = some w.heap.size) → wpList P ops Q rest (a.put o.dst v') w') : wpList P ops Q (o :: rest) a w := by
  obtain ⟨i, hi, hzz⟩ := Option.map_eq_some_iff.1 hinfo
  simp only [Prod.mk.injEq] at hzz
  obtain ⟨hz, hsize, hby⟩ := hzz
  refine wpList_plain hgd fun K hK => ?_
  obtain ⟨v', w', hr, h2, h3, h4, h5⟩ := run_acc_at (P := P) w F t o.type e i z size bytes ht hi hz hsize hby hzs hsz v n xs hacc ad m c news hm hl hnews h1 h63 hbytes hF
  unfold Oper.wp execOp
  simp only [ho, resolve, invoke, builtin, Sem.run_bind, Sem.run_pure, Result.andThen_ok, List.map_toArray, List.map_cons, List.map_nil, hs, hx, hr]
  exact hK _ _ (h v' w' (.inr h2) h3 h4 h5)

/-- Lines, put together again. -/
def unc : List (List UInt8) → List UInt8
  | [] => []
  | [x] => x
  | x :: y :: t => x ++ 10 :: unc (y :: t)
theorem unc_cut (l : List UInt8) : unc (cutL 10 l) = l := by
  induction l with
  | nil => rfl
  | cons y l ih =>
    rw [cutL]
    have hne := cutL_ne 10 l
    split
    · rename_i h
      cases hc : cutL 10 l with
      | nil => exact absurd hc hne
      | cons a t => rw [unc, ← hc, ih]; simp [h]
    · split
      · rename_i a t hc
        rw [hc] at ih
        cases t with
        | nil => simp only [unc] at ih ⊢; rw [ih]
        | cons b t => simp only [unc, List.cons_append] at ih ⊢; rw [ih]
      · rename_i hc; exact absurd hc hne
theorem unc_flat : ∀ xs : List (List UInt8), unc (xs ++ [[]]) = (xs.map (· ++ [10])).flatten := by
  intro xs
  induction xs with
  | nil => rfl
  | cons x t ih =>
    cases t with
    | nil => simp [unc]
    | cons y t => rw [List.cons_append, List.cons_append, unc, ← List.cons_append, ih]; simp
theorem cut_flat : ∀ xs : List (List UInt8), (∀ x ∈ xs, ∀ c ∈ x, fine c) → cutL 10 (xs.map (· ++ [10])).flatten = xs ++ [[]] := by
  have one : ∀ (x : List UInt8) (r : List UInt8), (∀ c ∈ x, fine c) → cutL 10 (x ++ 10 :: r) = x :: cutL 10 r := by
    intro x
    induction x with
    | nil => intro r _; rw [List.nil_append, cutL]; simp
    | cons b x ih =>
      intro r h
      rw [List.cons_append, cutL, if_neg (h b (by simp)).2, ih r (fun c hc => h c (List.mem_cons_of_mem _ hc))]
  intro xs
  induction xs with
  | nil => intro _; rfl
  | cons x t ih =>
    intro h
    rw [List.map_cons, List.flatten_cons, List.append_assoc, List.singleton_append, one _ _ (h x (by simp)), ih (fun y hy => h y (List.mem_cons_of_mem _ hy))]
    rfl
theorem text_lines {s : ByteArray} {L : List Ent} (h : IsText s L) : cutL 10 s.data.toList = L.map (fun e => (entText e).data.toList) ++ [[]] := by
  obtain ⟨h1, rfl, h3⟩ := h
  rw [histT_bytes]
  have := cut_flat (L.map fun e => (entText e).data.toList) (by
    intro x hx
    simp only [List.mem_map] at hx
    obtain ⟨e, he, rfl⟩ := hx
    exact fine_text ((ents_all h1).1 e he))
  rw [List.map_map] at this
  exact this
theorem lines_text {s : ByteArray} {L : List Ent} (h : cutL 10 s.data.toList = L.map (fun e => (entText e).data.toList) ++ [[]]) : histT L = s := by
  have h1 := unc_cut s.data.toList
  rw [h, unc_flat, List.map_map] at h1
  have h2 := histT_bytes L
  have : (histT L).data.toList = s.data.toList := by rw [h2, ← h1]; rfl
  cases s
  exact ByteArray.ext (Array.toList_inj.1 this)
end Go.Proofs.YtbngjpnbjknliaaGreatDoor

namespace Go.Proofs.YtbngjpnbjknliaaGreatDoor
set_option linter.unusedVariables false
set_option linter.unusedSimpArgs false
open Go.RowKit Go

/-- What the model's HistRead answers: the entries, just if the text is the text of some. -/
def SpecPost (s : ByteArray) (w : World) (e : Ending) (w' : World) : Prop :=
  ∃ a l c ok es, e = .returned (.tuple #[.slice a l c, .bool ok]) ∧ Below w.heap.size w w' ∧ IsEnts w' a l c es ∧ (ok = true → IsText s es) ∧ (ok = false → es = [] ∧ ∀ L, ¬ IsText s L)
theorem ents_nil (w : World) (a : Option Addr) : IsEnts w a 0 0 [] := ⟨rfl, Nat.le_refl _, Nat.zero_le _, fun h => by simp at h⟩
theorem bys_len (ps : List ByteArray) : (bys ps).length = ps.length := by simp [bys]
theorem bys_at (ps : List ByteArray) (k : Nat) (h : k < ps.length) : (bys ps)[k]'(by rw [bys_len]; exact h) = ps[k].data.toList := by simp [bys]
theorem text_last {s : ByteArray} {ps : List ByteArray} {L : List Ent} (hp : bys ps = cutL 10 s.data.toList) (h : IsText s L) : ps.length = L.length + 1 ∧ (∀ k (hk : k < L.length) (hk2 : k < ps.length), ps[k] = entText L[k]) ∧ ∀ hk : L.length < ps.length, ps[L.length] = eZ := by
  have h1 := hp.trans (text_lines h)
  have h2 : ps = L.map entText ++ [eZ] := by
    refine bys_inj (h1.trans ?_)
    rw [bys_app]
    simp [bys, eZ]
  subst h2
  refine ⟨by simp, fun k hk hk2 => ?_, fun hk => ?_⟩
  · rw [List.getElem_append_left (by simpa using hk)]; simp
  · rw [List.getElem_append_right (by simp)]; simp
theorem text_of {s : ByteArray} {ps : List ByteArray} {es : List Ent} (hp : bys ps = cutL 10 s.data.toList) (h : ps = es.map entText ++ [eZ]) (hok : ∀ e ∈ es, entOk e = true) (hn : es.length ≤ 400) (hs : s.size ≤ 16000) : IsText s es := by
  refine ⟨?_, lines_text (hp.symm.trans ?_), hs⟩
  · simp only [entsOk, Bool.and_eq_true, List.all_eq_true, decide_eq_true_eq]; exact ⟨hok, hn⟩
  · subst h; rw [bys_app]; simp [bys, eZ]
theorem bB_inj2 {a b : ByteArray} (h : a.data.toList = b.data.toList) : a = b := by cases a; exact ByteArray.ext (Array.toList_inj.1 h)
theorem newsE {W : World} {o : Obj} {v0 v1 v2 v3 v4 : Value} {t : TypeId} : ∀ j u, [v0, v1, v2, v3, v4][j]? = some u → ((W.alloc o).alloc (.cells #[v0, v1, v2, v3, v4] t)).cell? ((⟨W.heap.size + 1, 0, none⟩ : Addr).add j) = some u := news5

set_option maxRecDepth 4000 in
set_option maxHeartbeats 4000000 in
theorem specHistRead (HL : ∀ (x : ByteArray) (w : World), x.size ≤ 16777216 → Calls Tryz.prog 10 #[.string x] w fun e w' => LinePost x w e w') (s : ByteArray) (w : World) (hs : s.size ≤ 16777216) :
    Calls Tryz.prog 4 #[.string s] w fun e w' => SpecPost s w e w' := by
  have HC : Hid (∀ w, Calls Tryz.prog 9 #[.string s, .int .u8 10] w fun e w' => ∃ v ps, e = .returned v ∧ bys ps = cutL 10 s.data.toList ∧ Row w' v (sv ps) ∧ Below w.heap.size w w') := fun w => l1Cut s 10 w hs
  have HLL : Hid (∀ (x : ByteArray) (w : World), x.size ≤ 16777216 → Calls Tryz.prog 10 #[.string x] w fun e w' => LinePost x w e w') := HL
  clear HL
  go_enter Tryz.func4, Tryz.ntmps4
  go_wp2_with fail
  refine (HC.out _).mono ?_
  rintro e w1 ⟨v, ps, rfl, hps, hrow, hw1⟩
  have hne : 0 < ps.length := by
    cases ps with
    | nil => exact absurd hps.symm (cutL_ne _ _)
    | cons => simp
  have hlen := sv_len ps
  have hmx := hrow.max
  obtain ⟨a, cap, rfl⟩ := hrow.form
  rw [hlen] at hrow hmx
  obtain ⟨b, off, rfl, hcap, hbl, _⟩ := hrow.at (k := 0) (by simpa [sv] using hne)
  rw [hlen]
  have HCELL : Hid (∀ k (h : k < ps.length), w1.cell? ⟨b, off + k, none⟩ = some (.string ps[k])) := fun k h => by
    obtain ⟨b', off', e', _, _, hc'⟩ := hrow.at (k := k) (by simpa [sv] using h)
    simp only [Option.some.injEq, Addr.mk.injEq, and_true] at e'
    obtain ⟨rfl, rfl⟩ := e'
    rw [hc', sv_at]
  have HPS : Hid (bys ps = cutL 10 s.data.toList) := hps
  have HSZ : Hid (∀ k (h : k < ps.length), ps[k].size ≤ 16777216) := fun k hk => by
    have hm : (ps[k]).data.toList ∈ cutL 10 s.data.toList := by rw [← hps]; exact List.mem_map.2 ⟨_, List.getElem_mem hk, rfl⟩
    have := cutL_len 10 _ _ hm
    simp at this
    have h2 : ps[k].size ≤ s.size := this
    omega
  have hpl : ps.length ≤ 16777217 := words_many hps hs
  clear hrow hps hlen
  have HW1 : Hid _ := hw1
  clear hw1
  have HBW1 : Hid (Below w.heap.size w w1) := unbox (by simpa using HW1.out)
  by_cases hbig : 16000 < s.size
  · have hd : decide ((16000 : Int) < (s.size : Int)) = true := decide_eq_true (by omega)
    go_wp2_with fail
    refine bodyPost_ret (v := .tuple #[.slice (some ⟨w.heap.size, 0, none⟩) 0 0, .bool false]) ?_ rfl ?_
    · simp [results, Tryz.results4, go_sem]
    · exact ⟨_, _, _, false, [], rfl, HBW1.out, ents_nil _ _, (fun h => by cases h), fun _ => ⟨rfl, fun L h => by have := h.2.2; omega⟩⟩
  · have hd : decide ((16000 : Int) < (s.size : Int)) = false := decide_eq_false (by omega)
    obtain ⟨n, hn⟩ : ∃ n, ps.length = n + 1 := ⟨ps.length - 1, by omega⟩
    have hc0 := HCELL.out n (by omega)
    rw [hn]
    have hn1 : ((n + 1 : Nat) : Int) - 1 = n := by omega
    by_cases hl : ps[n].toList = []
    · by_cases h4 : n ≤ 400
      · have hd4 : decide ((400 : Int) < (n : Int)) = false := decide_eq_false (by omega)
        have hl2 : (ps[n].toList == []) = true := by simp [hl]
        have HL0 : Hid (ps[n] = eZ) := bB_inj2 (by rw [← ByteArray.toList_eq, hl]; rfl)
        go_wp2_with fail
        go_loopw [4, 7] (fun x i wr => ∃ (es : List Ent) (av : Option Addr) (cv : Nat), x = .slice av es.length cv ∧ i = .int .i64 (es.length : Nat) ∧ es.length ≤ n ∧ GathM wr w1.heap.size (.slice av es.length cv) es ∧ es.map entText = ps.take es.length ∧ (∀ e ∈ es, entOk e = true) ∧ Below w1.heap.size w1 wr) (fun _ i _ => n - (intOf i).toNat)
        case atStart =>
          exact ⟨[], _, _, rfl, rfl, Nat.zero_le _, ⟨[], rfl, Acc.empty _ _ _ (by have := HW1.out.size; simp at this; omega), fun i h => by simp at h⟩, rfl, (fun e he => by cases he), Below.refl _ _⟩
        case round =>
          obtain ⟨es, av, cv, rfl, rfl, hle, hG, hE, hok, hB⟩ := hrel
          have HB : Hid (Below w1.heap.size w1 wr) := hB
          have HG : Hid _ := hG
          have HE : Hid (es.map entText = ps.take es.length) := hE
          have HOK : Hid (∀ e ∈ es, entOk e = true) := hok
          clear hB hG hE hok
          by_cases hlt : es.length < n
          · have hc := (HB.out.cell (p := ⟨b, off + es.length, none⟩) hbl).trans (HCELL.out es.length (by omega))
            go_wp2_with fail
            refine (HLL.out _ _ (HSZ.out es.length (by omega))).mono ?_
            rintro e w2 ⟨k, id, key, nm, a, l, c, ok, rfl, hw2, hyes, hno⟩
            cases ok with
            | false =>
              have HNO : Hid _ := hno rfl
              clear hno hyes
              have HB2 : Hid (Below w.heap.size w w2) := HBW1.out.trans ((bcall HB.out HB.out.size hw2).mono HBW1.out.size)
              clear hw2
              go_wp2_with fail
              refine bodyPost_ret (v := .tuple #[.slice (some ⟨w2.heap.size + 1, 0, none⟩) 0 0, .bool false]) ?_ rfl ?_
              · simp [results, Tryz.results4, go_sem]
              · refine ⟨_, _, _, false, [], rfl, (HB2.out.alloc HB2.out.size _).alloc (by have := HB2.out.size; simp; omega) _, ents_nil _ _, (fun h => by cases h), fun _ => ⟨rfl, fun L h => ?_⟩⟩
                have h1 := text_last HPS.out h
                exact HNO.out _ ((ents_all h.1).1 _ (List.getElem_mem (by omega : es.length < L.length))) (h1.2.1 es.length (by omega) (by omega)).symm
            | true =>
              obtain ⟨r, hent, hrok, hrt, hfar⟩ := hyes rfl
              clear hyes hno
              obtain ⟨a', l', c', hx, hr, hz⟩ := hent
              simp only [List.cons.injEq, Value.int.injEq, Value.string.injEq, Value.slice.injEq, and_true, true_and] at hx
              obtain ⟨rfl, rfl, rfl, rfl, rfl, rfl, rfl⟩ := hx
              have HENT : Hid (EntIs w2 (cellsE r (.slice a l c)) r) := ⟨a, l, c, rfl, hr, hz⟩
              have HB2 : Hid (Below w1.heap.size w1 w2) := bcall HB.out HB.out.size hw2
              have HG2 : Hid (GathM w2 w1.heap.size (.slice av es.length cv) es) := GathM.below HG.out hw2
              have HFAR : Hid (0 < l → ∀ b off, a = some ⟨b, off, none⟩ → (Value.slice av es.length cv).ownBlock ≠ some b) := fun hl b off e h => by
                obtain ⟨vs, hv, h1, _⟩ := HG.out
                have := acc_own h1 h
                have := hfar hl b off e
                omega
              have HR : Hid (entOk r = true ∧ entText r = ps[es.length]) := ⟨hrok, hrt⟩
              clear hr hz hw2 hfar hrok hrt
              obtain ⟨vs, hv, hA, hall⟩ := GathM.below (GathM.below HG2.out ((Below.refl _ _).alloc (Nat.le_refl _) (.cells #[.int .i64 r.kind, .int .i64 r.id, .string r.key, .string r.name, .slice a l c] 32))) ((Below.refl _ _).alloc (Nat.le_refl _) (.cells #[.int .i64 r.kind, .int .i64 r.id, .string r.key, .string r.name, .slice a l c] 32))
              have HALL : Hid _ := hall
              have HA : Hid _ := hA
              clear hall hA
              go_wp2_with (at_builtin; refine wp_acc_at rfl _ _ 22 rfl w1.heap.size 32 _ 5 72 Tryz.underlying22 info_HE rfl (by decide) (.slice av es.length cv) es.length (flatE es vs) rfl HA.out ⟨w2.heap.size + 1, 0, none⟩ 1 1 [.int .i64 r.kind, .int .i64 r.id, .string r.key, .string r.name, .slice a l c] rfl (by decide) rfl newsE (by simp [Value.oneCell']) (by unfold maxLen; omega) (by omega) (by have := HB2.out.size; simp; omega) ?_; intro v' w3 hA3 hB3 hk3 ho3; have HK3 : Hid _ := hk3; have HA3 : Hid _ := hA3; have HB3 : Hid _ := hB3; have HO3 : Hid _ := ho3; clear hk3 hA3 hB3 ho3)
              have hent2 : EntIs ((w2.alloc (.cells #[.int .i64 r.kind, .int .i64 r.id, .string r.key, .string r.name, .slice a l c] 32)).alloc (.cells #[.int .i64 r.kind, .int .i64 r.id, .string r.key, .string r.name, .slice a l c] 32)) (cellsE r (.slice a l c)) r := EntIs.lasts _ _ _ _ ((Below.refl _ _).alloc (Nat.le_refl _) _) (EntIs.lasts _ _ _ _ ((Below.refl _ _).alloc (Nat.le_refl _) _) HENT.out)
              have hG3 := gathM_push hv HALL.out hent2 HFAR.out HA3.out HB3.out.size HK3.out HO3.out
              obtain ⟨av3, cv3, rfl, _⟩ := gathM_ents hG3
              go_roundw
              case rel =>
                refine ⟨es ++ [r], av3, cv3, rfl, by simp, by simp; omega, hG3, ?_, ?_, ?_⟩
                · rw [List.map_append, HE.out, List.length_append, List.length_singleton, List.take_succ_eq_append_getElem (by omega : es.length < ps.length), List.map_singleton, HR.out.2]
                · intro x hx
                  rcases List.mem_append.1 hx with hx | hx
                  · exact HOK.out x hx
                  · simp only [List.mem_singleton] at hx; subst hx; exact HR.out.1
                · exact ((HB2.out.alloc HB2.out.size _).alloc (by have := HB2.out.size; simp; omega) _).trans HB3.out
              case measure => simp [intOf]; omega
          · have hqe : es.length = n := by omega
            have HBW : Hid (Below w.heap.size w wr) := HBW1.out.trans (HB.out.mono HBW1.out.size)
            go_wp2_with fail
            obtain ⟨a2, c2, hf, hents⟩ := gathM_ents HG.out
            simp only [Value.slice.injEq, true_and] at hf
            obtain ⟨rfl, rfl⟩ := hf
            refine bodyPost_ret (v := .tuple #[.slice av es.length cv, .bool true]) ?_ rfl ?_
            · simp [results, Tryz.results4, go_sem]
            · refine ⟨_, _, _, true, es, rfl, HBW.out, hents, fun _ => text_of HPS.out ?_ HOK.out (by omega) (by omega), (fun h => by cases h)⟩
              rw [HE.out, hqe, ← HL0.out]
              rw [← List.take_succ_eq_append_getElem (by omega : n < ps.length), ← hn, List.take_length]
      · have hd4 : decide ((400 : Int) < (n : Int)) = true := decide_eq_true (by omega)
        go_wp2_with fail
        refine bodyPost_ret (v := .tuple #[.slice (some ⟨w.heap.size, 0, none⟩) 0 0, .bool false]) ?_ rfl ?_
        · simp [results, Tryz.results4, go_sem]
        · exact ⟨_, _, _, false, [], rfl, HBW1.out, ents_nil _ _, (fun h => by cases h), fun _ => ⟨rfl, fun L h => by have := (text_last HPS.out h).1; have := (ents_all h.1).2; omega⟩⟩
    · go_wp2_with fail
      refine bodyPost_ret (v := .tuple #[.slice (some ⟨w.heap.size, 0, none⟩) 0 0, .bool false]) ?_ rfl ?_
      · simp [results, Tryz.results4, go_sem]
      · refine ⟨_, _, _, false, [], rfl, HBW1.out, ents_nil _ _, (fun h => by cases h), fun _ => ⟨rfl, fun L h => hl ?_⟩⟩
        have h1 := text_last HPS.out h
        have h2 : n = L.length := by omega
        subst h2
        rw [h1.2.2 (by omega)]
        rw [ByteArray.toList_eq]; rfl
end Go.Proofs.YtbngjpnbjknliaaGreatDoor

namespace Go.Proofs.YtbngjpnbjknliaaGreatDoor
set_option linter.unusedVariables false
set_option linter.unusedSimpArgs false
open Go.RowKit Go

set_option maxHeartbeats 400000 in
theorem eqIntS (a b : Option Addr) (len cap cap2 : Nat) (zs : List Int) (w : World) (hr : IsRow .i64 w a len cap zs) (hr2 : IsRow .i64 w b len cap2 zs) :
    Calls Tryz.prog 38 #[.slice a len cap, .slice b len cap2] w fun e w' => e = .returned (.bool true) ∧ Below w.heap.size w w' := by
  have hm := hr.len.2
  unfold maxLen at hm
  have HR : Hid (IsRow .i64 w a len cap zs) := hr
  have HR2 : Hid (IsRow .i64 w b len cap2 zs) := hr2
  clear hr hr2
  go_enter Tryz.func38, Tryz.ntmps38
  go_wp2
  go_loopw [5] (fun i wr => ∃ q m : Nat, i = .int .i64 q ∧ q ≤ len ∧ wr = w.drewN m) (fun i _ => len - (intOf i).toNat)
  case atStart => exact ⟨0, 0, rfl, Nat.zero_le _, rfl⟩
  case round =>
    obtain ⟨q, m, rfl, hq, hwr⟩ := hrel
    subst hwr
    by_cases hlt : q < len
    · obtain ⟨b3, off3, rfl, _, _, hc3⟩ := IsRow.at HR.out hlt
      obtain ⟨b4, off4, rfl, _, _, hc4⟩ := IsRow.at HR2.out hlt
      go_wp2_with fail
      go_quiet (fail)
      go_wp2_with fail
      go_roundw
      case rel => exact ⟨q + 1, _, by go_num, by omega, rfl⟩
      case measure => simp [intOf]; omega
    · go_wp2_with fail
      go_ret
      exact ⟨rfl, below_drewN (Below.refl _ _) _⟩
end Go.Proofs.YtbngjpnbjknliaaGreatDoor

namespace Go.Proofs.YtbngjpnbjknliaaGreatDoor
set_option linter.unusedVariables false
set_option linter.unusedSimpArgs false
open Go.RowKit Go

set_option maxHeartbeats 400000 in
theorem eqHistEntry (kind id : Int) (key name : ByteArray) (a b : Option Addr) (len cap cap2 : Nat) (zs : List Int) (w : World) (hr : IsRow .i64 w a len cap zs) (hr2 : IsRow .i64 w b len cap2 zs) :
    Calls Tryz.prog 15 #[.agg #[.int .i64 kind, .int .i64 id, .string key, .string name, .slice a len cap], .agg #[.int .i64 kind, .int .i64 id, .string key, .string name, .slice b len cap2]] w fun e w' => e = .returned (.bool true) ∧ Below w.heap.size w w' := by
  have HE : Hid (∀ w, IsRow .i64 w a len cap zs → IsRow .i64 w b len cap2 zs → Calls Tryz.prog 38 #[.slice a len cap, .slice b len cap2] w fun e w' => e = .returned (.bool true) ∧ Below w.heap.size w w') := fun w h1 h2 => eqIntS a b len cap cap2 zs w h1 h2
  have HR : Hid (IsRow .i64 w a len cap zs) := hr
  have HR2 : Hid (IsRow .i64 w b len cap2 zs) := hr2
  clear hr hr2
  go_enter Tryz.func15, Tryz.ntmps15
  go_wp2_with fail
  refine (HE.out _ (by exact (IsRow.alloc HR.out _).alloc _) (by exact (IsRow.alloc HR2.out _).alloc _)).mono ?_
  rintro e w1 ⟨rfl, hb⟩
  go_wp2_with fail
  go_ret
  exact ⟨rfl, bcall (((Below.refl _ _).alloc (Nat.le_refl _) _).alloc (by simp) _) (by simp; omega) hb⟩

set_option maxHeartbeats 400000 in
theorem eqHistEntryS (a b : Option Addr) (len cap cap2 : Nat) (es : List Ent) (w : World) (hr : IsEnts w a len cap es) (hr2 : IsEnts w b len cap2 es) :
    Calls Tryz.prog 6 #[.slice a len cap, .slice b len cap2] w fun e w' => e = .returned (.bool true) ∧ Below w.heap.size w w' := by
  obtain ⟨hz, hm⟩ := IsRecs.len hr
  unfold maxLen at hm
  have HR : Hid (IsEnts w a len cap es) := hr
  have HR2 : Hid (IsEnts w b len cap2 es) := hr2
  clear hr hr2
  go_enter Tryz.func6, Tryz.ntmps6
  go_wp2
  go_loopw [5] (fun i wr => ∃ q : Nat, i = .int .i64 q ∧ q ≤ len ∧ Below w.heap.size w wr) (fun i _ => len - (intOf i).toNat)
  case atStart => exact ⟨0, rfl, Nat.zero_le _, Below.refl _ _⟩
  case round =>
    obtain ⟨q, rfl, hq, hb⟩ := hrel
    by_cases hlt : q < len
    · obtain ⟨b1, off1, rfl, h1, hbl1, a1, l1, k1, c0, c1, c2, c3, c4, hrow1, _⟩ := IsEnts.at (IsEnts.below HR.out hb) (i := q) (by omega)
      obtain ⟨b2, off2, rfl, h2, hbl2, a2, l2, k2, d0, d1, d2, d3, d4, hrow2, _⟩ := IsEnts.at (IsEnts.below HR2.out hb) (i := q) (by omega)
      have e1 := hrow1.len
      have e2 := hrow2.len
      have e12 : l2 = l1 := by omega
      subst e12
      have HE : Hid (∀ w', Below wr.heap.size wr w' → Calls Tryz.prog 15 #[.agg #[.int .i64 es[q].kind, .int .i64 es[q].id, .string es[q].key, .string es[q].name, .slice a1 l2 k1], .agg #[.int .i64 es[q].kind, .int .i64 es[q].id, .string es[q].key, .string es[q].name, .slice a2 l2 k2]] w' fun e w'' => e = .returned (.bool true) ∧ Below w'.heap.size w' w'') :=
        fun w' hb' => eqHistEntry _ _ _ _ a1 a2 l2 k1 k2 es[q].nums w' (hrow1.below hb') (hrow2.below hb')
      go_wp2_with fail
      go_region_with (go_at_call 15; refine (HE.out _ (by first | exact Below.refl _ _ | exact (Below.refl _ _).drew)).mono ?_; rintro e w1 ⟨rfl, hw1⟩)
      all_goals
        go_wp2_with fail
        go_roundw
        case rel => exact ⟨q + 1, by go_num, by omega, bcall hb.drew hb.size hw1⟩
        case measure => simp [intOf]; omega
    · go_wp2_with fail
      go_ret
      exact ⟨rfl, hb⟩
end Go.Proofs.YtbngjpnbjknliaaGreatDoor

namespace Go.Proofs.YtbngjpnbjknliaaGreatDoor
set_option linter.unusedVariables false
set_option linter.unusedSimpArgs false
open Go.RowKit Go

/-- The text of a mark. -/
def mT (k : Nat) : ByteArray := ⟨#[109]⟩ ++ decB k
theorem mT_size (k : Nat) (h : k ≤ 9223372036854775807) : (mT k).size ≤ 22 := by
  have := decB_size k h
  unfold mT
  rw [ByteArray.size_append]
  have : (⟨#[109]⟩ : ByteArray).size = 1 := rfl
  omega

set_option maxRecDepth 4000 in
set_option maxHeartbeats 1000000 in
theorem markText (k : Nat) (hk : 1 ≤ k) (hk2 : k ≤ 9223372036854775807) (w : World) :
    Calls Tryz.prog 16 #[.int .i64 k] w fun e w' => e = .returned (.string (mT k)) ∧ Below w.heap.size w w' := by
  have hsz := decB_size k hk2
  have hs9 : (⟨#[109]⟩ : ByteArray).size = 1 := rfl
  go_enter Tryz.func16, Tryz.ntmps16
  go_wp2_with fail
  go_loopw [3, 0] (fun o x wr => ∃ (q : Nat) (t : ByteArray), x = .int .i64 q ∧ o = .string t ∧ q ≤ k ∧ (if q = 0 then t else decB q ++ t) = decB k ∧ Below w.heap.size w wr) (fun _ x _ => (intOf x).toNat)
  case atStart => exact ⟨k, ⟨#[]⟩, rfl, rfl, Nat.le_refl _, by rw [if_neg (by omega)]; ext1; simp, Below.refl _ _⟩
  case round =>
    obtain ⟨q, t, rfl, rfl, hq, ht, hb⟩ := hrel
    have hts : t.size ≤ 21 := by
      split at ht
      · rw [ht]; exact hsz
      · have := congrArg ByteArray.size ht; rw [ByteArray.size_append] at this; omega
    by_cases h0 : q = 0
    · subst h0
      rw [if_pos rfl] at ht
      subst ht
      go_wp2_with fail
      go_ret
      exact ⟨rfl, hb⟩
    · rw [if_neg h0] at ht
      have HT : Hid _ := ht
      clear ht
      have e2 : 48 + (q : Int) % 10 = ((digC (q % 10)).toNat : Int) := by rw [byte_of _ (by omega)]; omega
      have hcv := fun w b h' => cv_one w b (digC (q % 10)) (48 + (q : Int) % 10) e2 h'
      have hs1 : (⟨#[digC (q % 10)]⟩ : ByteArray).size = 1 := rfl
      have hq0 : 0 < q := by omega
      clear h0
      have HDV : Hid (IntKind.i64.wrap ((q : Int) / 10) = ((q / 10 : Nat) : Int)) := by show _ = _; rw [IntKind.wrap_i64]; omega
      clear e2
      go_wp2_with fail
      go_roundw
      case rel =>
        refine ⟨q / 10, ⟨#[digC (q % 10)]⟩ ++ t, ?_, rfl, by omega, ?_, hb.alloc hb.size _⟩
        · first | rfl | exact congrArg (Value.int .i64) HDV.out | simp | go_num
        · rw [← HT.out]
          by_cases h10 : q < 10
          · rw [if_pos (by omega), decB_small h10, show q % 10 = q by omega]
          · rw [if_neg (by omega), decB_more h10, ByteArray.append_assoc]
      case measure => simp [intOf]; omega
end Go.Proofs.YtbngjpnbjknliaaGreatDoor
