/- The law's sizes of entries of a history. -/
import Derived.Test.YtmfibpfnbhhoaaaDoorB2
namespace Go.Proofs.YtmfibpfnbhhoaaaDoor
set_option linter.unusedVariables false
set_option linter.unusedSimpArgs false
open Go.RowKit Go

/-- An entry of a history. -/
structure Ent where
  kind : Int
  id : Int
  key : ByteArray
  name : ByteArray
  nums : List Int

/-- The cells of an entry. -/
def EntIs (w : World) (vs : List Value) (e : Ent) : Prop :=
  ∃ a l c, vs = [.int .i64 e.kind, .int .i64 e.id, .string e.key, .string e.name, .slice a l c] ∧ IsRow .i64 w a l c e.nums ∧ e.key.size ≤ maxLen ∧ e.name.size ≤ maxLen ∧ (Lit.int .i64 e.kind).wf = true ∧ (Lit.int .i64 e.id).wf = true
theorem EntIs.lasts : Lasts EntIs := by
  rintro w w' vs e hb ⟨a, l, c, rfl, h, h2⟩
  exact ⟨a, l, c, rfl, h.below hb, h2⟩
def IsEnts (w : World) (a : Option Addr) (len cap : Nat) (es : List Ent) : Prop := IsRecs 5 EntIs w a len cap es
theorem IsEnts.below {w w' : World} {a : Option Addr} {len cap : Nat} {es : List Ent} (h : IsEnts w a len cap es) (hb : Below w.heap.size w w') : IsEnts w' a len cap es := IsRecs.below EntIs.lasts h hb
theorem IsEnts.alloc {w : World} {a : Option Addr} {len cap : Nat} {es : List Ent} (h : IsEnts w a len cap es) (o : Obj) : IsEnts (w.alloc o) a len cap es := IsRecs.alloc EntIs.lasts h o
/-- One entry, by its place: its five cells. -/
theorem IsEnts.at {w : World} {a : Option Addr} {len cap : Nat} {es : List Ent} (h : IsEnts w a len cap es) {i : Nat} (hi : i < es.length) :
    ∃ b off, a = some ⟨b, off, none⟩ ∧ len ≤ cap ∧ b < w.heap.size ∧ ∃ a' l c, w.cell? ⟨b, off + i * 5, none⟩ = some (.int .i64 es[i].kind) ∧ w.cell? ⟨b, off + i * 5 + 1, none⟩ = some (.int .i64 es[i].id) ∧ w.cell? ⟨b, off + i * 5 + 2, none⟩ = some (.string es[i].key) ∧ w.cell? ⟨b, off + i * 5 + 3, none⟩ = some (.string es[i].name) ∧ w.cell? ⟨b, off + i * 5 + 4, none⟩ = some (.slice a' l c) ∧ IsRow .i64 w a' l c es[i].nums ∧ es[i].key.size ≤ maxLen ∧ es[i].name.size ≤ maxLen ∧ (Lit.int .i64 es[i].kind).wf = true ∧ (Lit.int .i64 es[i].id).wf = true := by
  obtain ⟨b, off, rfl, h1, h2, vs, hv, hc, a', l, c, rfl, h3⟩ := IsRecs.at h hi
  exact ⟨b, off, rfl, h1, h2, a', l, c, hc 0 (by simp), hc 1 (by simp), hc 2 (by simp), hc 3 (by simp), hc 4 (by simp), h3⟩

set_option maxHeartbeats 400000 in
theorem szHistEntry (kind id : Int) (key name : ByteArray) (a : Option Addr) (len cap : Nat) (left : Int) (hl : 0 ≤ left ∧ left ≤ 1048576) (hk : key.size ≤ maxLen) (hn : name.size ≤ maxLen) (hm : len ≤ 9223372036854775807) (w : World) :
    Calls Tryd.prog 9 #[.agg #[.int .i64 kind, .int .i64 id, .string key, .string name, .slice a len cap], .int .i64 left] w fun e w' => (∃ r : Int, e = .returned (.int .i64 r) ∧ -1 ≤ r ∧ r ≤ 1048576 ∧ (0 ≤ r → key.size + name.size + len ≤ 1048576)) ∧ Below w.heap.size w w' := by
  unfold maxLen at hk hn
  go_enter Tryd.func9, Tryd.ntmps9
  by_cases h : left - key.size < 0
  · go_wp2
    all_goals go_ret
    exact ⟨⟨_, rfl, by omega, by omega, by omega⟩, by first | exact Below.refl _ _ | exact (Below.refl _ _).alloc (Nat.le_refl _) _⟩
  by_cases h2 : left - key.size - name.size < 0
  · go_wp2
    all_goals go_ret
    exact ⟨⟨_, rfl, by omega, by omega, by omega⟩, by first | exact Below.refl _ _ | exact (Below.refl _ _).alloc (Nat.le_refl _) _⟩
  have hs := szIntS a len cap (left - key.size - name.size) (by omega) hm
  have hb : (lessBy (left - key.size - name.size) len = -1) ∨ (0 ≤ lessBy (left - key.size - name.size) len ∧ lessBy (left - key.size - name.size) len ≤ 1048576 ∧ key.size + name.size + len ≤ 1048576) := by unfold lessBy; split <;> omega
  generalize lessBy (left - key.size - name.size) len = r at hs hb
  have hs : Hid _ := hs
  go_wp2_with (go_at_call 21; refine (hs.out _).mono ?_; rintro e w1 ⟨rfl, hw1⟩)
  all_goals go_ret
  · exact ⟨⟨_, rfl, by omega, by omega, by omega⟩, (bcall ((Below.refl _ _).alloc (Nat.le_refl _) _) (by simp) hw1)⟩
  · exact ⟨⟨_, rfl, by omega, by omega, by omega⟩, (bcall ((Below.refl _ _).alloc (Nat.le_refl _) _) (by simp) hw1)⟩

/-- Small enough, each. -/
def entSmall (e : Ent) : Prop := e.key.size + e.name.size + e.nums.length ≤ 1048576

set_option maxHeartbeats 400000 in
theorem szHistEntryS (a : Option Addr) (len cap : Nat) (es : List Ent) (w : World) (hr : IsEnts w a len cap es) :
    Calls Tryd.prog 4 #[.slice a len cap, .int .i64 1048576] w fun e w' => (∃ r : Int, e = .returned (.int .i64 r) ∧ -1 ≤ r ∧ r ≤ 1048576 ∧ (0 ≤ r → len ≤ 1048576 ∧ ∀ i (h : i < es.length), entSmall es[i])) ∧ Below w.heap.size w w' := by
  obtain ⟨hz, hm⟩ := IsRecs.len hr
  unfold maxLen at hm
  have HR : Hid (IsEnts w a len cap es) := hr
  clear hr
  go_enter Tryd.func4, Tryd.ntmps4
  by_cases h : (1048576 : Int) - len < 0
  · go_wp2
    go_ret
    exact ⟨⟨_, rfl, by omega, by omega, by omega⟩, Below.refl _ _⟩
  go_wp2
  go_loopw [1, 5] (fun lf i wr => ∃ (k : Nat) (f : Int), k ≤ len ∧ i = .int .i64 k ∧ lf = .int .i64 f ∧ 0 ≤ f ∧ f ≤ 1048576 ∧ (∀ i (h : i < es.length), i < k → entSmall es[i]) ∧ Below w.heap.size w wr) (fun _ i _ => len - (intOf i).toNat)
  case atStart => exact ⟨0, _, Nat.zero_le _, rfl, rfl, by omega, by omega, fun i _ h => by omega, Below.refl _ _⟩
  case round =>
    obtain ⟨k, f, hk, rfl, rfl, hf0, hf1, hsm, hb⟩ := hrel
    by_cases hlt : k < len
    · obtain ⟨b, off, rfl, h1, hbl, a', l', c', c0, c1, c2, c3, c4, hrow, hks, hns, _, _⟩ := IsEnts.at (IsEnts.below HR.out hb) (i := k) (by omega)
      have hl := hrow.len
      have HS : Hid _ := szHistEntry es[k].kind es[k].id es[k].key es[k].name a' l' c' f ⟨hf0, hf1⟩ hks hns (by have := hl.2; unfold maxLen at this; omega)
      have hsk : ∀ r : Int, (0 ≤ r → es[k].key.size + es[k].name.size + l' ≤ 1048576) → 0 ≤ r → ∀ i (h : i < es.length), i < k + 1 → entSmall es[i] := fun r hr h0 i hi hik => by
        by_cases e : i = k
        · subst e; unfold entSmall; rw [hl.1]; exact hr h0
        · exact hsm i hi (by omega)
      clear hsm
      go_wp2_with (go_at_call 9; refine (HS.out _).mono ?_; rintro e w1 ⟨⟨r, rfl, hr1, hr2, hr3⟩, hw1⟩)
      · go_ret
        exact ⟨⟨_, rfl, by omega, by omega, by omega⟩, bcall hb hb.size hw1⟩
      · go_roundw
        case rel => exact ⟨k + 1, r, by omega, by go_num, rfl, by omega, hr2, hsk r hr3 (by omega), bcall hb hb.size hw1⟩
        case measure => simp [intOf]; omega
    · go_wp2
      go_ret
      exact ⟨⟨_, rfl, by omega, by omega, fun _ => ⟨by omega, fun i hi => hsm i hi (by omega)⟩⟩, hb⟩
end Go.Proofs.YtmfibpfnbhhoaaaDoor
