/- The reader of drawn inputs: one of some texts; a text many times. -/
import Derived.Test.YtkemfifkjaclhaaGreatDoorJ7
import Derived.Test.YtkemfifkjaclhaaGreatDoorJ8
namespace Go.Proofs.YtkemfifkjaclhaaGreatDoor
set_option linter.unusedVariables false
set_option linter.unusedSimpArgs false
open Go.RowKit Go
namespace RI
theorem dep {o : Oper} {listed : Array Bool} (haft : ∀ e ∈ o.after, Region.binds .any e = true → listed.getD e.on false = true) (j : Nat) (h : o.after.any (fun e => e.on == j && Region.binds .any e) = true) : listed.getD j false = true := by
  obtain ⟨k, hk, he⟩ := Array.any_eq_true.1 h
  simp only [Bool.and_eq_true, beq_iff_eq] at he
  rw [← he.1]
  exact haft _ (Array.getElem_mem hk) he.2
theorem op_one {P : Program} {ops : Array Oper} {Q : Exit → Act → World → Prop} {i : Nat} {o : Oper} {a : Act} {w : World} {K : Act → World → Prop} (hi : ops[i]? = some o) (hw : Region.wanted o (yielded ops a.tmps) = true)
    (h : ∀ K' : Act → World → Prop, (∀ a' w', K a' w' → K' a' w') → Oper.wp P o a w K' Q) : wpOp P ops Q i K a w := by
  unfold wpOp
  simp only [hi, hw, if_true]
  exact .inl (h K fun _ _ h => h)
theorem op_val {P : Program} {ops : Array Oper} {Q : Exit → Act → World → Prop} {i : Nat} {o : Oper} {a : Act} {w : World} {K : Act → World → Prop} {v : Value} {d : Option Nat} (hi : ops[i]? = some o) (hw : Region.wanted o (yielded ops a.tmps) = true) (hd : o.dst = d)
    (hx : (execOp a.eval o).run P w = .ok (.value v) w) (h : K (a.put d v) w) : wpOp P ops Q i K a w := by
  refine op_one hi hw fun K' hK => ?_
  unfold Oper.wp
  rw [hx]
  exact hK _ _ (by rw [hd]; exact h)
end RI
namespace Dr
def upd (xs : Nat → Value) (i : Nat) (v : Value) : Nat → Value := fun j => if j = i then v else xs j
theorem upd_same (xs : Nat → Value) (i : Nat) (v : Value) : upd xs i v i = v := if_pos rfl
theorem upd_else (xs : Nat → Value) {i j : Nat} (v : Value) (h : j ≠ i) : upd xs i v j = xs j := if_neg h
theorem upd_id {xs : Nat → Value} {i : Nat} {u : Value} (h : xs i = u) : xs = upd xs i u := by
  funext k; unfold upd; split
  · subst_vars; rfl
  · rfl

/-- Where a rule's cells lie. -/
theorem GathO.cell {w : World} {F g n cv : Nat} {es : List Rul} {vs : List Value} (h : GathO w F (.slice (some ⟨g, 0, none⟩) n cv) es vs) {k j : Nat} (hk : k < es.length) (hk' : k < vs.length) (hj : j < 5) : w.cell? ⟨g, k * 5 + j, none⟩ = (Cal.cellsR es[k] vs[k])[j]? := by
  have h5 := Cal.flatR_at es vs k j h.len hk hj
  rcases h.acc with ⟨h0, _⟩ | h1
  · omega
  · rcases h1.2 with ⟨h3, _⟩ | ⟨g', cap, cur, h3, h4, h6, h7, h8, h9, h10⟩
    · simp only [Value.slice.injEq] at h3; cases h3.1
    · simp only [Value.slice.injEq, Option.some.injEq, Addr.mk.injEq, and_true, true_and] at h3
      obtain ⟨rfl, _⟩ := h3
      rw [cell_of_row _ _ _ _ _ _ h6, ← h5]
      have : k * 5 + j < es.length * 5 := by omega
      rw [← h10, List.getElem?_take, if_pos this]
      simp
/-- What lies from base on stands. -/
def Near (base : Nat) (W W' : World) : Prop := W.heap.size ≤ W'.heap.size ∧ ∀ b, base ≤ b → b < W.heap.size → W'.heap[b]? = W.heap[b]?
theorem Near.cell {base : Nat} {W W' : World} (h : Near base W W') {b o : Nat} (h1 : base ≤ b) (h2 : b < W.heap.size) : W'.cell? ⟨b, o, none⟩ = W.cell? ⟨b, o, none⟩ := World.cell?_of_block (a := ⟨b, o, none⟩) (h.2 b h1 h2)
theorem Near.of_keeps {R base : Nat} {W W' : World} (hR : R < base) (h : Keeps R W W') : Near base W W' := ⟨h.size, fun b h1 h2 => h.block b h2 (by omega)⟩
/-- All is done: the rules can be read. -/
def FinO (R F g n cv : Nat) (W : World) : Prop := ∃ rs', GathD W R F (.slice (some ⟨g, 0, none⟩) n cv) rs' ∧ rs'.length = n
/-- The world of such a region. -/
structure KO (R F g n cv k : Nat) (a : Option Addr) (len cap : Nat) (bs : List Int) (p : Int) (es : List Rul) (vs : List Value) (w0 : World) (base pk ap st : Nat) (listed : Array Bool) (x : Value) (W : World) : Prop where
  keep : Keeps R w0 W
  size : base ≤ W.heap.size
  rd : Rd W R a len cap bs (if listed.getD pk false = true then p + 1 else p)
  rules : if listed.getD st false = true then FinO R F g n cv W else if listed.getD ap false = true then (FinO R F g n cv (W.setCell ⟨g, k * 5 + 4, none⟩ x) ∧ ∃ cur, Holds W g 50 cur ∧ n * 5 ≤ cur.size) else GathO W F (.slice (some ⟨g, 0, none⟩) n cv) es vs
def InvS (fr : (Nat → Value) → Act) (Ok : Nat → Value → World → Prop) (m pk ap st : Nat) (K : Array Bool → Value → World → Prop) (listed : Array Bool) (act : Act) (W : World) : Prop :=
  ∃ xs, act = fr xs ∧ K listed (xs ap) W ∧ (listed.getD st false = false → ∀ j, j < m → listed.getD j false = true → Ok j (xs j) W)
section
variable {fr : (Nat → Value) → Act} {Ok : Nat → Value → World → Prop} {m R F g n cv k : Nat} {a : Option Addr} {len cap : Nat} {bs : List Int} {p : Int} {es : List Rul} {vs : List Value} {w0 : World} {base pk ap st : Nat} {listed : Array Bool} {xs : Nat → Value} {W W' : World}
theorem KO.up {x : Value} (h : KO R F g n cv k a len cap bs p es vs w0 base pk ap st listed x W) {i : Nat} (h1 : pk ≠ i) (h2 : ap ≠ i) (h3 : st ≠ i) : KO R F g n cv k a len cap bs p es vs w0 base pk ap st (listed.setIfInBounds i true) x W :=
  ⟨h.keep, h.size, by rw [RI.up_else h1]; exact h.rd, by rw [RI.up_else h3, RI.up_else h2]; exact h.rules⟩
/-- An operation that changes nothing. -/
theorem InvS.val (hK : KO R F g n cv k a len cap bs p es vs w0 base pk ap st listed (xs ap) W) (hF : listed.getD st false = false → ∀ j, j < m → listed.getD j false = true → Ok j (xs j) W) (i : Nat) (v : Value) {act : Act} (ha : act = fr (upd xs i v)) (h1 : pk ≠ i) (h2 : ap ≠ i) (h3 : st ≠ i) (hok : Ok i v W) :
    InvS fr Ok m pk ap st (KO R F g n cv k a len cap bs p es vs w0 base pk ap st) (listed.setIfInBounds i true) act W := by
  refine ⟨upd xs i v, ha, by rw [upd_else xs v h2]; exact hK.up h1 h2 h3, fun hs j hj hl => ?_⟩
  rw [RI.up_else h3] at hs
  by_cases e : j = i
  · subst e; rw [upd_same]; exact hok
  · rw [upd_else xs v e]; exact hF hs j hj (by rwa [RI.up_else e] at hl)
/-- An operation that makes memory, or draws: ahead of what is stored. -/
theorem InvS.grow (hR : R < F) (hK : KO R F g n cv k a len cap bs p es vs w0 base pk ap st listed (xs ap) W) (hF : listed.getD st false = false → ∀ j, j < m → listed.getD j false = true → Ok j (xs j) W) (i : Nat) (v : Value) {act : Act} (ha : act = fr (upd xs i v)) (h2 : ap ≠ i) (h3 : st ≠ i) (l2 : listed.getD ap false = false) (l3 : listed.getD st false = false) (hk : Keeps R W W')
    (hrd : Rd W' R a len cap bs (if (listed.setIfInBounds i true).getD pk false = true then p + 1 else p)) (hmono : ∀ j u, Ok j u W → Ok j u W') (hok : Ok i v W') :
    InvS fr Ok m pk ap st (KO R F g n cv k a len cap bs p es vs w0 base pk ap st) (listed.setIfInBounds i true) act W' := by
  refine ⟨upd xs i v, ha, ⟨hK.keep.trans hk, Nat.le_trans hK.size hk.size, hrd, ?_⟩, fun hs j hj hl => ?_⟩
  · have h := hK.rules
    rw [l2, l3] at h
    rw [RI.up_else h3, RI.up_else h2, l2, l3]
    exact GathO.keeps h hk hR
  · by_cases e : j = i
    · subst e; rw [upd_same]; exact hok
    · rw [upd_else xs v e]; exact hmono _ _ (hF l3 j hj (by rwa [RI.up_else e] at hl))
theorem KO.gath {x : Value} (h : KO R F g n cv k a len cap bs p es vs w0 base pk ap st listed x W) (l2 : listed.getD ap false = false) (l3 : listed.getD st false = false) : GathO W F (.slice (some ⟨g, 0, none⟩) n cv) es vs := by
  have h := h.rules
  rw [l2, l3] at h
  exact h
/-- The last one: what is stored. -/
theorem InvS.last (hK : KO R F g n cv k a len cap bs p es vs w0 base pk ap st listed (xs ap) W) {act : Act} (ha : act = fr xs) (hsz : st < listed.size) (h1 : pk ≠ st) (hg : R < g) (h0 : w0.heap.size ≤ g) (off : Nat) (u : Value) (hfin : FinO R F g n cv (W.setCell ⟨g, off, none⟩ u)) :
    InvS fr Ok m pk ap st (KO R F g n cv k a len cap bs p es vs w0 base pk ap st) (listed.setIfInBounds st true) act (W.setCell ⟨g, off, none⟩ u) := by
  refine ⟨xs, ha, ⟨hK.keep.set h0 u, by simpa using hK.size, ?_, ?_⟩, fun hs => ?_⟩
  · rw [RI.up_else h1]; exact hK.rd.set hg u
  · rw [RI.up_same hsz]; exact hfin
  · rw [RI.up_same hsz] at hs; cases hs
theorem GathO.fin1 (h : GathO W F (.slice (some ⟨g, 0, none⟩) n cv) es vs) (hn : es.length = n) (hR : R < F) {q j : Nat} (hq : q < n) (hj : j < 4) {z : Int} (hz : (Lit.int .i64 z).wf = true) : FinO R F g n cv (W.setCell ⟨g, q * 5 + j, none⟩ (.int .i64 z)) := by
  subst hn
  exact ⟨_, GathD.setF (h.toD hR) hq hj hz, by simp⟩
end
end Dr
end Go.Proofs.YtkemfifkjaclhaaGreatDoor

namespace Go.Proofs.YtkemfifkjaclhaaGreatDoor
set_option linter.unusedVariables false
set_option linter.unusedSimpArgs false
open Go.RowKit Go
namespace Dr

set_option maxRecDepth 4000 in
theorem rdOf (R : Nat) (a : Option Addr) (len cap : Nat) (bs : List Int) (p : Int) (b : Nat) (ss : List ByteArray) (w : World) (h : Rd w R a len cap bs p) (hp : p ≤ 999999999) (hc : ∀ i (hi : i < ss.length), w.cell? ⟨b, i, none⟩ = some (.string ss[i])) (hb : b < w.heap.size) (hbR : b ≠ R) (h1 : 1 ≤ ss.length) (h2 : ss.length ≤ 100) :
    Calls Tryz.prog 16 #[.pointer (some ⟨R, 0, none⟩), .slice (some ⟨b, 0, none⟩) ss.length ss.length] w fun e w' => (∃ x ∈ ss, e = .returned (.string x)) ∧ Keeps R w w' := by
  have HP : Hid (Calls Tryz.prog 15 #[.pointer (some ⟨R, 0, none⟩), .int .i64 (ss.length : Int)] w fun e w' => (∃ v : Int, e = .returned (.int .i64 v) ∧ Picked (ss.length : Int) v) ∧ Rd w' R a len cap bs (p + 1) ∧ Keeps R w w') := pick R a len cap bs p _ w h hp (by omega)
  have HC : Hid (∀ i (hi : i < ss.length), w.cell? ⟨b, i, none⟩ = some (.string ss[i])) := hc
  clear h hc
  go_enter Tryz.func16, Tryz.ntmps16
  go_wp2_with fail
  refine Calls.mono HP.out ?_
  rintro e w1 ⟨⟨x, rfl, hx1, hx2, _⟩, hr1, hk1⟩
  have hx2 := hx2 (by omega)
  obtain ⟨k, rfl⟩ : ∃ k : Nat, x = (k : Int) := ⟨x.toNat, by omega⟩
  have hk : k < ss.length := by omega
  have hcell : w1.cell? ⟨b, k, none⟩ = some (.string ss[k]) := (hk1.cell hb hbR).trans (HC.out k hk)
  have HM : Hid (ss[k] ∈ ss) := List.getElem_mem hk
  have HK : Hid (Keeps R w w1) := hk1
  have hki : ¬ (ss.length : Int) ≤ (k : Int) := by omega
  generalize ss[k] = y at hcell HM
  clear hr1 hk1 HP
  go_wp2_with fail
  go_ret
  exact ⟨⟨y, HM.out, rfl⟩, HK.out⟩

/-- How far a text has grown. -/
def ManyAt (n s o : Nat) : Prop := (4 ≤ n ∧ n ≤ 5 ∧ s ≤ 25 ∧ o ≤ 0) ∨ (n = 2 ∧ s ≤ 50 ∧ o ≤ 25) ∨ (n = 1 ∧ s ≤ 100 ∧ o ≤ 25) ∨ (n = 0 ∧ s ≤ 200 ∧ o ≤ 125)
set_option maxRecDepth 4000 in
set_option maxHeartbeats 1000000 in
theorem l1Many (s : ByteArray) (n : Nat) (w : World) (h1 : 4 ≤ n) (h2 : n ≤ 5) (hs : s.size ≤ 25) :
    Calls Tryz.prog 17 #[.string s, .int .i64 (n : Int)] w fun e w' => (∃ x : ByteArray, e = .returned (.string x) ∧ x.size ≤ 125) ∧ w' = w := by
  go_enter Tryz.func17, Tryz.ntmps17
  go_wp2_with fail
  go_loopw [0, 1, 5] (fun t i o wr => ∃ (T O : ByteArray) (m : Nat), t = .string T ∧ i = .int .i64 (m : Int) ∧ o = .string O ∧ ManyAt m T.size O.size ∧ wr = w) (fun _ i _ _ => (intOf i).toNat)
  case atStart => exact ⟨s, ⟨#[]⟩, n, rfl, rfl, rfl, .inl ⟨h1, h2, hs, by decide⟩, rfl⟩
  case round =>
    obtain ⟨T, O, m, rfl, rfl, rfl, hM, rfl⟩ := hrel
    have HM : Hid (ManyAt m T.size O.size) := hM
    have hb : T.size ≤ 200 ∧ O.size ≤ 125 ∧ m ≤ 5 := by unfold ManyAt at hM; omega
    clear hM
    have hTT : (T ++ T).size = T.size + T.size := ByteArray.size_append
    have hOT : (O ++ T).size = O.size + T.size := ByteArray.size_append
    have n1 : ¬ 9223372036854775807 < T.size + T.size := by omega
    have n2 : ¬ 9223372036854775807 < O.size + T.size := by omega
    by_cases hm : 0 < m
    · have hdiv : (m : Int).tdiv 2 = ((m / 2 : Nat) : Int) := by rw [Int.tdiv_eq_ediv_of_nonneg (by omega)]; omega
      have hmod : (m : Int).tmod 2 = ((m % 2 : Nat) : Int) := by rw [Int.tmod_eq_emod_of_nonneg (by omega)]; omega
      have h0 : m % 2 = 0 ∨ m % 2 = 1 := by omega
      obtain ⟨q, hq⟩ : ∃ q, Hid (q = m / 2) := ⟨_, rfl⟩
      rw [← hq.out] at hdiv
      rcases h0 with h0 | h0
      · rw [h0] at hmod
        have HN : Hid (ManyAt q (T ++ T).size O.size) := by
          show ManyAt _ _ _
          have := HM.out; have := hq.out; unfold ManyAt at *; omega
        have hq5 : q < m := by have := hq.out; omega
        go_wp2_with fail
        go_roundw
        case rel => exact ⟨T ++ T, O, q, rfl, by go_num, rfl, HN.out, by first | rfl | trivial⟩
        case measure => simp [intOf]; omega
      · rw [h0] at hmod
        have HN : Hid (ManyAt q (T ++ T).size (O ++ T).size) := by
          show ManyAt _ _ _
          have := HM.out; have := hq.out; unfold ManyAt at *; omega
        have hq5 : q < m := by have := hq.out; omega
        go_wp2_with fail
        go_roundw
        case rel => exact ⟨T ++ T, O ++ T, q, rfl, by go_num, rfl, HN.out, by first | rfl | trivial⟩
        case measure => simp [intOf]; omega
    · go_wp2_with fail
      go_ret
      exact ⟨⟨O, rfl, hb.2.1⟩, rfl⟩
end Dr
end Go.Proofs.YtkemfifkjaclhaaGreatDoor
