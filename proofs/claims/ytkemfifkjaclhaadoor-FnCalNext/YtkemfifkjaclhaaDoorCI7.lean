/- The program's own calendars: the rules as parts, each of which tells its first tick above one; the least of them. -/
import Derived.Test.YtkemfifkjaclhaaDoorCI6
import Derived.Test.YtkemfifkjaclhaaDoorCA13a
import Derived.Test.YtkemfifkjaclhaaDoorApp0
import Derived.Laws.AppendOwn
namespace Go.Proofs.YtkemfifkjaclhaaDoor
set_option linter.unusedVariables false
set_option linter.unusedSimpArgs false
open Go.RowKit Go

/-- A rule in a block of its own. -/
def RulBox (W : World) (k : Nat) (r : Rul) (s : Value) : Prop := W.heap[k]? = some (.cells #[.int .i64 r.ev, .int .i64 r.at_, .int .i64 r.fr, .int .i64 r.to_, s] 43 (0, 0))
/-- A part: what tells the first tick of a rule. -/
def fnOf (k : Nat) : Value := .func (.func 32) #[] #[.pointer (some ⟨k, 0, none⟩)]

set_option maxHeartbeats 1000000 in
theorem tickFn (r : Rul) (a : Option Addr) (len cap : Nat) (k : Nat) (t : Int) (w : World) (hk : RulBox w k r (.slice a len cap)) (hr : IsRow .i64 w a len cap r.but) (hok : RuleOk r) (ht : -9223372036854775808 ≤ t) :
    Calls Tryd.prog 32 #[.int .i64 t, .pointer (some ⟨k, 0, none⟩)] w fun x w' => Tells (OfRule r) t x ∧ Below w.heap.size w w' := by
  have HT : Hid _ := tickAbove r a len cap t w hr hok ht
  have c0 : w.cell? ⟨k, 0, none⟩ = some (.int .i64 r.ev) := by simp [World.cell?, show w.heap[k]? = _ from hk]
  have c1 : w.cell? ⟨k, 1, none⟩ = some (.int .i64 r.at_) := by simp [World.cell?, show w.heap[k]? = _ from hk]
  have c2 : w.cell? ⟨k, 2, none⟩ = some (.int .i64 r.fr) := by simp [World.cell?, show w.heap[k]? = _ from hk]
  have c3 : w.cell? ⟨k, 3, none⟩ = some (.int .i64 r.to_) := by simp [World.cell?, show w.heap[k]? = _ from hk]
  have c4 : w.cell? ⟨k, 4, none⟩ = some (.slice a len cap) := by simp [World.cell?, show w.heap[k]? = _ from hk]
  clear hr hok hk
  go_enter Tryd.func32, Tryd.ntmps32
  go_wp2_with fail
  refine Calls.mono HT.out ?_
  rintro e w1 ⟨(⟨n, rfl, h0, h1, hf⟩ | ⟨n, rfl, hf⟩), hw1⟩
  · have HF : Hid (FirstR (OfRule r) t n) := hf
    clear hf
    go_wp2_with fail
    refine bodyPost_ret (v := .tuple #[.int .i64 n, .bool true]) ?_ rfl ?_
    · simp [results, Tryd.results32, go_sem]
    · exact ⟨.inl ⟨n, rfl, h0, h1, HF.out⟩, hw1⟩
  · have HF : Hid (FirstR (OfRule r) t (-1)) := hf
    clear hf
    go_wp2_with fail
    refine bodyPost_ret (v := .tuple #[.int .i64 n, .bool false]) ?_ rfl ?_
    · simp [results, Tryd.results32, go_sem]
    · exact ⟨.inr ⟨n, rfl, HF.out⟩, hw1⟩

/-- A part of a rule: its block lies from M on; what is left out lies where it lay in w0. -/
def PartAt (w0 W : World) (M : Nat) (u : Value) (r : Rul) : Prop := ∃ k a l c, u = fnOf k ∧ M ≤ k ∧ RulBox W k r (.slice a l c) ∧ IsRow .i64 w0 a l c r.but
def Parts (w0 W : World) (M : Nat) (v : Value) (ps : List Rul) : Prop :=
  ∃ us : List Value, ∃ hu : us.length = ps.length, W.ownsRow M 100 1 v ps.length us ∧ ∀ i (h : i < ps.length), PartAt w0 W M (us[i]'(by omega)) ps[i]
/-- What lies in blocks from M on, as cells, stands. -/
def KeptUp (M : Nat) (W W' : World) : Prop := ∀ (k : Nat) (c : Array Value) (t : TypeId) (fz : Nat × Nat), M ≤ k → W.heap[k]? = some (.cells c t fz) → W'.heap[k]? = some (.cells c t fz)
theorem KeptUp.below {M : Nat} {W W' : World} (h : Below W.heap.size W W') : KeptUp M W W' := fun k _ _ _ _ hk => (h.block k (Array.getElem?_eq_some_iff.1 hk).1).trans hk
theorem PartAt.keep {w0 W W' : World} {M : Nat} {u : Value} {r : Rul} (h : PartAt w0 W M u r) (hk : KeptUp M W W') : PartAt w0 W' M u r := by
  obtain ⟨k, a, l, c, h1, h2, h3, h4⟩ := h
  exact ⟨k, a, l, c, h1, h2, hk _ _ _ _ h2 h3, h4⟩
theorem own_keep {w w' : World} {M : Nat} {e : TypeId} {size : Nat} {v : Value} {n : Nat} {xs : List Value} (h : w.ownsRow M e size v n xs) (hk : KeptUp M w w') : w'.ownsRow M e size v n xs := by
  refine ⟨h.1, ?_⟩
  rcases h.2 with h | ⟨g, cap, cur, h1, h2, h3, h4⟩
  · exact .inl h
  · exact .inr ⟨g, cap, cur, h1, h2, hk _ _ _ _ h2 h3, h4⟩
theorem Parts.keep {w0 W W' : World} {M : Nat} {v : Value} {ps : List Rul} (h : Parts w0 W M v ps) (hk : KeptUp M W W') : Parts w0 W' M v ps := by
  obtain ⟨us, hu, h1, h2⟩ := h
  exact ⟨us, hu, own_keep h1 hk, fun i hi => (h2 i hi).keep hk⟩
theorem Parts.nil (w0 W : World) (M : Nat) : Parts w0 W M (.slice none 0 0) [] := ⟨[], rfl, World.ownsRow_nil _ _ _ _, fun i h => by simp at h⟩
/-- One part, by its place. -/
theorem Parts.at {w0 W : World} {M : Nat} {v : Value} {ps : List Rul} (h : Parts w0 W M v ps) {i : Nat} (hi : i < ps.length) : ∃ g cap k a l c, v = .slice (some ⟨g, 0, none⟩) ps.length cap ∧ ps.length ≤ cap ∧ W.cell? ⟨g, i, none⟩ = some (fnOf k) ∧ RulBox W k ps[i] (.slice a l c) ∧ IsRow .i64 w0 a l c ps[i].but := by
  obtain ⟨us, hu, h1, h2⟩ := h
  obtain ⟨k, a, l, c, e1, _, e3, e4⟩ := h2 i hi
  rcases h1.2 with ⟨_, hn⟩ | ⟨g, cap, cur, rfl, _, hg, hc, _, _, ht⟩
  · omega
  · refine ⟨g, cap, k, a, l, c, rfl, hc, ?_, e3, e4⟩
    have hq : us[i]? = some (fnOf k) := by rw [List.getElem?_eq_getElem (by omega), e1]
    rw [← ht, List.getElem?_take_of_lt (by omega)] at hq
    simp only [World.cell?, hg]
    simpa using hq
theorem Parts.form {w0 W : World} {M : Nat} {v : Value} {ps : List Rul} (h : Parts w0 W M v ps) : ∃ a c, v = .slice a ps.length c ∧ ps.length ≤ maxLen := by
  obtain ⟨us, hu, h1, _⟩ := h
  rcases h1.2 with ⟨rfl, hn⟩ | ⟨g, cap, cur, rfl, _, hg, hc, hm, _⟩
  · exact ⟨none, 0, by rw [hn], by rw [hn]; unfold maxLen; omega⟩
  · exact ⟨_, _, rfl, by omega⟩

theorem first_none (rs : List Rul) (t : Int) : FirstR (OfTo rs 0) t (-1) := .inl ⟨rfl, fun u _ ⟨i, _, h, _⟩ => by omega⟩

set_option maxRecDepth 4000 in
set_option maxHeartbeats 2000000 in
theorem leastAbove (w0 : World) (M : Nat) (ps : List Rul) (v : Value) (t : Int) (W : World) (hp : Parts w0 W M v ps) (hb0 : Below w0.heap.size w0 W) (hok : ∀ i (hi : i < ps.length), RuleOk ps[i]) (ht : -9223372036854775808 ≤ t) :
    Calls Tryd.prog 48 #[v, .int .i64 t] W fun x w' => Tells (OfTo ps ps.length) t x ∧ Below W.heap.size W w' := by
  obtain ⟨a, cp, rfl, hm⟩ := hp.form
  unfold maxLen at hm
  have HP : Hid (Parts w0 W M (.slice a ps.length cp) ps) := hp
  have HB0 : Hid _ := hb0
  have HOK : Hid (∀ i (hi : i < ps.length), RuleOk ps[i]) := hok
  clear hp hb0 hok
  go_enter Tryd.func48, Tryd.ntmps48
  go_wp2_with fail
  go_loopw [6, 7, 14] (fun l f i wr => ∃ (k : Nat) (b x : Int), k ≤ ps.length ∧ i = .int .i64 k ∧ FirstR (OfTo ps k) t b ∧ l = .int .i64 x ∧ ((b = -1 ∧ f = .bool false) ∨ (0 ≤ b ∧ b ≤ 100000 ∧ x = b ∧ f = .bool true)) ∧ Below W.heap.size W wr) (fun _ _ i _ => ps.length - (intOf i).toNat)
  case atStart => exact ⟨0, -1, 0, Nat.zero_le _, rfl, first_none _ _, rfl, .inl ⟨rfl, rfl⟩, Below.refl _ _⟩
  case round =>
    obtain ⟨k, b, x, hk, rfl, hfb, rfl, hst, hB⟩ := hrel
    have HFB : Hid (FirstR (OfTo ps k) t b) := hfb
    clear hfb
    by_cases hlt : k < ps.length
    · obtain ⟨g, cap, kk, a1, l1, c1, e1, hcap, hcell, hbox, hrow⟩ := (HP.out.keep (KeptUp.below hB)).at hlt
      have hT := tickFn ps[k] a1 l1 c1 kk t wr hbox (hrow.below (HB0.out.trans (hB.mono HB0.out.size))) (HOK.out k hlt) ht
      have HT : Hid _ := hT
      have HST : Hid (∀ u, (OfTo ps k u ∨ OfRule ps[k] u) ↔ OfTo ps (k + 1) u) := ofTo_step hlt
      have HPO : Hid (∀ u, OfTo ps k u → 0 ≤ u) := ofTo_nonneg HOK.out k
      have HQO : Hid (∀ u, OfRule ps[k] u → 0 ≤ u) := of_nonneg (HOK.out k hlt)
      cases e1
      unfold fnOf at hcell
      clear hbox hrow hT
      generalize ps[k] = rk at HT HST HQO
      have HT : Hid (Calls Tryd.prog 32 #[.int .i64 t, .pointer (some ⟨kk, 0, none⟩)] wr fun x w' => Tells (OfRule rk) t x ∧ Below wr.heap.size wr w') := HT
      rcases hst with ⟨rfl, rfl⟩ | ⟨hb1, hb2, rfl, rfl⟩
      · go_wp2_with fail
        refine Calls.mono HT.out ?_
        rintro e w1 ⟨(⟨n, rfl, h0, h1, hf⟩ | ⟨n, rfl, hf⟩), hw1⟩
        · have HF : Hid (FirstR (OfTo ps (k + 1)) t n) := (HFB.out.take hf HPO.out h0 (.inl (by omega))).congr HST.out
          clear hf
          go_wp2_with fail
          go_roundw
          case rel => exact ⟨k + 1, n, n, by omega, by go_num, HF.out, rfl, .inr ⟨h0, h1, rfl, rfl⟩, bcall hB hB.size hw1⟩
          case measure => simp [intOf]; omega
        · have HF : Hid (FirstR (OfTo ps (k + 1)) t (-1)) := (HFB.out.keep hf HPO.out HQO.out (.inl (by omega))).congr HST.out
          clear hf
          go_wp2_with fail
          go_roundw
          case rel => exact ⟨k + 1, -1, x, by omega, by go_num, HF.out, rfl, .inl ⟨rfl, rfl⟩, bcall hB hB.size hw1⟩
          case measure => simp [intOf]; omega
      · go_wp2_with fail
        refine Calls.mono HT.out ?_
        rintro e w1 ⟨(⟨n, rfl, h0, h1, hf⟩ | ⟨n, rfl, hf⟩), hw1⟩
        · by_cases hnb : n < x
          · have HF : Hid (FirstR (OfTo ps (k + 1)) t n) := (HFB.out.take hf HPO.out h0 (.inr hnb)).congr HST.out
            clear hf
            go_wp2_with fail
            go_roundw
            case rel => exact ⟨k + 1, n, n, by omega, by go_num, HF.out, rfl, .inr ⟨h0, h1, rfl, rfl⟩, bcall hB hB.size hw1⟩
            case measure => simp [intOf]; omega
          · have HF : Hid (FirstR (OfTo ps (k + 1)) t x) := (HFB.out.keep hf HPO.out HQO.out (.inr ⟨hb1, by omega⟩)).congr HST.out
            clear hf
            go_wp2_with fail
            go_roundw
            case rel => exact ⟨k + 1, x, x, by omega, by go_num, HF.out, rfl, .inr ⟨hb1, hb2, rfl, rfl⟩, bcall hB hB.size hw1⟩
            case measure => simp [intOf]; omega
        · have HF : Hid (FirstR (OfTo ps (k + 1)) t x) := (HFB.out.keep hf HPO.out HQO.out (.inl (by omega))).congr HST.out
          clear hf
          go_wp2_with fail
          go_roundw
          case rel => exact ⟨k + 1, x, x, by omega, by go_num, HF.out, rfl, .inr ⟨hb1, hb2, rfl, rfl⟩, bcall hB hB.size hw1⟩
          case measure => simp [intOf]; omega
    · obtain rfl : k = ps.length := by omega
      rcases hst with ⟨rfl, rfl⟩ | ⟨hb1, hb2, rfl, rfl⟩
      · go_wp2_with fail
        refine bodyPost_ret (v := .tuple #[.int .i64 x, .bool false]) ?_ rfl ?_
        · simp [results, Tryd.results48, go_sem]
        · exact ⟨.inr ⟨x, rfl, HFB.out⟩, hB⟩
      · go_wp2_with fail
        refine bodyPost_ret (v := .tuple #[.int .i64 x, .bool true]) ?_ rfl ?_
        · simp [results, Tryd.results48, go_sem]
        · exact ⟨.inl ⟨x, rfl, hb1, hb2, HFB.out⟩, hB⟩
end Go.Proofs.YtkemfifkjaclhaaDoor
