/- Rules that are handed in, read. -/
import Derived.Test.YtghocdiddolinaaGreatDoorJ1
import Derived.WalkKit
import Derived.WalkSpells
import Derived.WalkLawsBesides
import Derived.Deep.OwnRows
import Derived.ProofKit
import Derived.OpenShut
import Derived.ShutString
import Derived.ChangeOld
import Derived.Below
import Derived.Lib.SmallJoins
import Derived.Test.YtghocdiddolinaaGreatDoorRows
namespace Go.Proofs.YtghocdiddolinaaGreatDoor
set_option linter.unusedVariables false
set_option linter.unusedSimpArgs false
open Go.RowKit Go

theorem info_int : (Tryz.prog.info? 3).map (fun i => (i.zero, i.size, i.bytes)) = some (some (.int .i64 0), 1, 8) := by kernel_rfl

theorem toInts_round {w wr : World} {len k : Nat} {zs : List Int} {cur : Array Value} (hk : k < len) (hg : wr.heap[w.heap.size]? = some (.cells cur 3 (0, 0))) (hs : cur.size = len)
    (hc : ∀ i, i < k → cur[i]? = some (.int .i64 (zs.getD i 0))) (hb : Below w.heap.size w wr) (x : Int) (hx : x = zs.getD k 0) :
    ∃ cur', (wr.setCell ⟨w.heap.size, k, none⟩ (.int .i64 x)).heap[w.heap.size]? = some (.cells cur' 3 (0, 0)) ∧ cur'.size = len ∧ (∀ i, i < k + 1 → cur'[i]? = some (.int .i64 (zs.getD i 0))) ∧ Below w.heap.size w (wr.setCell ⟨w.heap.size, k, none⟩ (.int .i64 x)) := by
  refine ⟨cur.setIfInBounds k (.int .i64 x), heap_setCell_same _ _ _ _ _ _ hg, by simp [hs], ?_, hb.setCell (Nat.le_refl _) _⟩
  intro i hi
  by_cases e : i = k
  · subst e; simp [hs, hk, hx]
  · rw [Array.getElem?_setIfInBounds_ne (by omega)]; exact hc i (by omega)

set_option maxHeartbeats 400000 in
theorem toInts (a : Option Addr) (len cap : Nat) (zs : List Int) (w : World) (hr : IsRow .i64 w a len cap zs) (hs : len ≤ 1048576) :
    Calls Tryz.prog 26 #[.slice a len cap] w fun e w' => ∃ cur, e = .returned (.slice (some ⟨w.heap.size, 0, none⟩) len len) ∧ w'.heap[w.heap.size]? = some (.cells cur 3 (0, 0)) ∧ cur.size = len ∧ (∀ i, i < len → cur[i]? = some (.int .i64 (zs.getD i 0))) ∧ Below w.heap.size w w' := by
  obtain ⟨hz, hm⟩ := hr.len
  have HRW : Hid (IsRow .i64 w a len cap zs) := hr
  clear hr
  have hmk := run_make_row' (P := Tryz.prog) 23 3 (.int .i64 0) 8 Tryz.underlying23 info_int rfl .i64 .i64 len (by omega) (by omega)
  go_enter Tryz.func26, Tryz.ntmps26
  go_wp2
  go_loopw [4] (fun i wr => ∃ k : Nat, k ≤ len ∧ i = .int .i64 k ∧ ∃ cur, wr.heap[w.heap.size]? = some (.cells cur 3 (0, 0)) ∧ cur.size = len ∧ (∀ i, i < k → cur[i]? = some (.int .i64 (zs.getD i 0))) ∧ Below w.heap.size w wr) (fun i _ => len - (intOf i).toNat)
  case atStart => exact ⟨0, Nat.zero_le _, rfl, _, heap_alloc_new _ _, size_madeCells _ _, fun i h => by omega, (Below.refl _ _).alloc (Nat.le_refl _) _⟩
  case round =>
    obtain ⟨k, hk, rfl, cur, hg, hcs, hc, hb⟩ := hrel
    by_cases hlt : k < len
    · have HR := fun x hx => toInts_round (w := w) hlt hg hcs hc hb x hx
      have HR : Hid _ := HR
      obtain ⟨b, off, rfl, h1, hbl, hck⟩ := IsRow.at HRW.out hlt
      have hc1 : wr.cell? ⟨b, off + k, none⟩ = some (.int .i64 (zs.getD k 0)) := (hb.cell (p := ⟨b, off + k, none⟩) hbl).trans hck
      have hf1 : wr.frozen? ⟨w.heap.size, k, none⟩ = false := frozen_of_row _ _ _ _ _ hg
      have hf2 : wr.cell? ⟨w.heap.size, k, none⟩ = some cur[k] := by rw [cell_of_row _ _ _ _ _ _ hg]; simp [hcs, hlt]
      clear hck hc hg
      go_wp2
      go_roundw
      case rel =>
        exact ⟨k + 1, by omega, by go_num, HR.out _ (getD_at zs k (by omega)).symm⟩
      case measure => simp [intOf]; omega
    · go_wp2
      go_ret
      exact ⟨cur, rfl, hg, hcs, fun i hi => hc i (by omega), hb⟩

set_option maxHeartbeats 400000 in
theorem szIntS (a : Option Addr) (len cap : Nat) (left : Int) (hl : -1 ≤ left ∧ left ≤ 1048576) (hm : len ≤ 9223372036854775807) (w : World) :
    Calls Tryz.prog 18 #[.slice a len cap, .int .i64 left] w fun e w' => e = .returned (.int .i64 (lessBy left len)) ∧ Below w.heap.size w w' := by
  go_enter Tryz.func18, Tryz.ntmps18
  by_cases h : left - len < 0
  · rw [lessBy_pos h]
    go_wp2
    all_goals go_ret
    exact ⟨rfl, Below.refl _ _⟩
  · rw [lessBy_neg h]
    go_wp2
    all_goals go_ret
    exact ⟨rfl, Below.refl _ _⟩

theorem toIntS (a : Option Addr) (len cap : Nat) (zs : List Int) (w : World) (hr : IsRow .i64 w a len cap zs) (hs : len ≤ 1048576) :
    Calls Tryz.prog 26 #[.slice a len cap] w fun e w' => e = .returned (.slice (some ⟨w.heap.size, 0, none⟩) len len) ∧ IsRow .i64 w' (some ⟨w.heap.size, 0, none⟩) len len zs ∧ Below w.heap.size w w' := by
  refine (toInts a len cap zs w hr hs).mono ?_
  rintro e w' ⟨cur, rfl, hg, hcs, hc, hb⟩
  refine ⟨rfl, ⟨hr.1, Nat.le_refl _, by unfold maxLen; omega, fun _ => ⟨w.heap.size, 0, rfl, ?_, fun i hi => ?_⟩, hr.wf⟩, hb⟩
  · rw [Array.getElem?_eq_some_iff] at hg; exact hg.1
  · rw [cell_of_row _ _ _ _ _ _ hg]; simpa using hc i hi
end Go.Proofs.YtghocdiddolinaaGreatDoor

namespace Go.Proofs.YtghocdiddolinaaGreatDoor
set_option linter.unusedVariables false
set_option linter.unusedSimpArgs false
open Go.RowKit Go

/-- A rule of a calendar. -/
structure Rul where
  ev : Int
  at_ : Int
  fr : Int
  to_ : Int
  but : List Int

/-- The cells of a rule. -/
def RulIs (w : World) (vs : List Value) (e : Rul) : Prop :=
  ∃ a l c, vs = [.int .i64 e.ev, .int .i64 e.at_, .int .i64 e.fr, .int .i64 e.to_, .slice a l c] ∧ IsRow .i64 w a l c e.but ∧ (Lit.int .i64 e.ev).wf = true ∧ (Lit.int .i64 e.at_).wf = true ∧ (Lit.int .i64 e.fr).wf = true ∧ (Lit.int .i64 e.to_).wf = true
theorem RulIs.lasts : Lasts RulIs := by
  rintro w w' vs e hb ⟨a, l, c, rfl, h, h2⟩
  exact ⟨a, l, c, rfl, h.below hb, h2⟩
def IsRuls (w : World) (a : Option Addr) (len cap : Nat) (rs : List Rul) : Prop := IsRecs 5 RulIs w a len cap rs
theorem IsRuls.below {w w' : World} {a : Option Addr} {len cap : Nat} {rs : List Rul} (h : IsRuls w a len cap rs) (hb : Below w.heap.size w w') : IsRuls w' a len cap rs := IsRecs.below RulIs.lasts h hb
theorem IsRuls.alloc {w : World} {a : Option Addr} {len cap : Nat} {rs : List Rul} (h : IsRuls w a len cap rs) (o : Obj) : IsRuls (w.alloc o) a len cap rs := IsRecs.alloc RulIs.lasts h o
/-- One rule, by its place: its five cells. -/
theorem IsRuls.at {w : World} {a : Option Addr} {len cap : Nat} {rs : List Rul} (h : IsRuls w a len cap rs) {i : Nat} (hi : i < rs.length) :
    ∃ b off, a = some ⟨b, off, none⟩ ∧ len ≤ cap ∧ b < w.heap.size ∧ ∃ a' l c, w.cell? ⟨b, off + i * 5, none⟩ = some (.int .i64 rs[i].ev) ∧ w.cell? ⟨b, off + i * 5 + 1, none⟩ = some (.int .i64 rs[i].at_) ∧ w.cell? ⟨b, off + i * 5 + 2, none⟩ = some (.int .i64 rs[i].fr) ∧ w.cell? ⟨b, off + i * 5 + 3, none⟩ = some (.int .i64 rs[i].to_) ∧ w.cell? ⟨b, off + i * 5 + 4, none⟩ = some (.slice a' l c) ∧ IsRow .i64 w a' l c rs[i].but ∧ (Lit.int .i64 rs[i].ev).wf = true ∧ (Lit.int .i64 rs[i].at_).wf = true ∧ (Lit.int .i64 rs[i].fr).wf = true ∧ (Lit.int .i64 rs[i].to_).wf = true := by
  obtain ⟨b, off, rfl, h1, h2, vs, hv, hc, a', l, c, rfl, h3⟩ := IsRecs.at h hi
  exact ⟨b, off, rfl, h1, h2, a', l, c, hc 0 (by simp), hc 1 (by simp), hc 2 (by simp), hc 3 (by simp), hc 4 (by simp), h3⟩

theorem info_CalRule : (Tryz.prog.info? 73).map (fun i => (i.zero, i.size, i.bytes)) = some (some (.agg #[.int .i64 0, .int .i64 0, .int .i64 0, .int .i64 0, .slice none 0 0]), 5, 56) := by kernel_rfl
end Go.Proofs.YtghocdiddolinaaGreatDoor

namespace Go.Proofs.YtghocdiddolinaaGreatDoor
set_option linter.unusedVariables false
set_option linter.unusedSimpArgs false
open Go.RowKit Go

set_option maxHeartbeats 400000 in
theorem szCalRule (ev at_ fr to_ : Int) (a : Option Addr) (len cap : Nat) (left : Int) (hl : 0 ≤ left ∧ left ≤ 1048576) (hm : len ≤ 9223372036854775807) (w : World) :
    Calls Tryz.prog 41 #[.agg #[.int .i64 ev, .int .i64 at_, .int .i64 fr, .int .i64 to_, .slice a len cap], .int .i64 left] w fun e w' => (∃ r : Int, e = .returned (.int .i64 r) ∧ -1 ≤ r ∧ r ≤ 1048576 ∧ (0 ≤ r → len ≤ 1048576)) ∧ Below w.heap.size w w' := by
  have hs := szIntS a len cap left (by omega) hm
  have hb : (lessBy left len = -1) ∨ (0 ≤ lessBy left len ∧ lessBy left len ≤ 1048576 ∧ len ≤ 1048576) := by unfold lessBy; split <;> omega
  generalize lessBy left len = r at hs hb
  have hs : Hid _ := hs
  go_enter Tryz.func41, Tryz.ntmps41
  go_wp2_with (go_at_call 18; refine (hs.out _).mono ?_; rintro e w1 ⟨rfl, hw1⟩)
  all_goals go_ret
  · exact ⟨⟨_, rfl, by omega, by omega, by omega⟩, (bcall ((Below.refl _ _).alloc (Nat.le_refl _) _) (by simp) hw1)⟩
  · exact ⟨⟨_, rfl, by omega, by omega, by omega⟩, (bcall ((Below.refl _ _).alloc (Nat.le_refl _) _) (by simp) hw1)⟩

/-- Small enough, each. -/
def rulSmall (e : Rul) : Prop := e.but.length ≤ 1048576

set_option maxHeartbeats 400000 in
theorem szCalRuleS (a : Option Addr) (len cap : Nat) (rs : List Rul) (w : World) (hr : IsRuls w a len cap rs) :
    Calls Tryz.prog 17 #[.slice a len cap, .int .i64 1048576] w fun e w' => (∃ r : Int, e = .returned (.int .i64 r) ∧ -1 ≤ r ∧ r ≤ 1048576 ∧ (0 ≤ r → len ≤ 1048576 ∧ ∀ i (h : i < rs.length), rulSmall rs[i])) ∧ Below w.heap.size w w' := by
  obtain ⟨hz, hm⟩ := IsRecs.len hr
  unfold maxLen at hm
  have HR : Hid (IsRuls w a len cap rs) := hr
  clear hr
  go_enter Tryz.func17, Tryz.ntmps17
  by_cases h : (1048576 : Int) - len < 0
  · go_wp2
    go_ret
    exact ⟨⟨_, rfl, by omega, by omega, by omega⟩, Below.refl _ _⟩
  go_wp2
  go_loopw [1, 5] (fun lf i wr => ∃ (k : Nat) (f : Int), k ≤ len ∧ i = .int .i64 k ∧ lf = .int .i64 f ∧ 0 ≤ f ∧ f ≤ 1048576 ∧ (∀ i (h : i < rs.length), i < k → rulSmall rs[i]) ∧ Below w.heap.size w wr) (fun _ i _ => len - (intOf i).toNat)
  case atStart => exact ⟨0, _, Nat.zero_le _, rfl, rfl, by omega, by omega, fun i _ h => by omega, Below.refl _ _⟩
  case round =>
    obtain ⟨k, f, hk, rfl, rfl, hf0, hf1, hsm, hb⟩ := hrel
    by_cases hlt : k < len
    · obtain ⟨b, off, rfl, h1, hbl, a', l', c', c0, c1, c2, c3, c4, hrow, _⟩ := IsRuls.at (IsRuls.below HR.out hb) (i := k) (by omega)
      have hl := hrow.len
      have HS : Hid _ := szCalRule rs[k].ev rs[k].at_ rs[k].fr rs[k].to_ a' l' c' f ⟨hf0, hf1⟩ (by have := hl.2; unfold maxLen at this; omega)
      have hsk : ∀ r : Int, (0 ≤ r → l' ≤ 1048576) → 0 ≤ r → ∀ i (h : i < rs.length), i < k + 1 → rulSmall rs[i] := fun r hr h0 i hi hik => by
        by_cases e : i = k
        · subst e; unfold rulSmall; rw [hl.1]; exact hr h0
        · exact hsm i hi (by omega)
      clear hsm
      go_wp2_with (go_at_call 41; refine (HS.out _).mono ?_; rintro e w1 ⟨⟨r, rfl, hr1, hr2, hr3⟩, hw1⟩)
      · go_ret
        exact ⟨⟨_, rfl, by omega, by omega, by omega⟩, bcall hb hb.size hw1⟩
      · go_roundw
        case rel => exact ⟨k + 1, r, by omega, by go_num, rfl, by omega, hr2, hsk r hr3 (by omega), bcall hb hb.size hw1⟩
        case measure => simp [intOf]; omega
    · go_wp2
      go_ret
      exact ⟨⟨_, rfl, by omega, by omega, fun _ => ⟨by omega, fun i hi => hsm i hi (by omega)⟩⟩, hb⟩
end Go.Proofs.YtghocdiddolinaaGreatDoor

namespace Go.Proofs.YtghocdiddolinaaGreatDoor
set_option linter.unusedVariables false
set_option linter.unusedSimpArgs false
open Go.ChangeShapes Go.WideShapes Go.ChangeAt Go.RowKit Go.Joins Go Go.Deep
open Go.ChangeMaps (open_string shut_string)

theorem isRow_of {H : Type} {enc : TypeId × Value → H} {W : World} {base : Nat} {spare : Nat → Bool} {held : Bool} {n : Nat} {a : Option Addr} {l c : Nat} {y : DataW H × List MemPlace} (hf : DataW.trod enc Tryz.prog W base spare held n 23 [.slice a l c] = some y) : ∃ zs, IsRow .i64 W a l c zs := by
  rcases open_ints Tryz.underlying23 Tryz.underlying3 (by kernel_rfl) hf with ⟨hcs, _⟩ | ⟨x, l', c', zs, hcs, _, hl, hm, hz, hy, hcell, hwz⟩
  · simp at hcs
    obtain ⟨rfl, rfl, rfl⟩ := hcs
    exact ⟨[], rfl, Nat.le_refl _, by unfold maxLen; omega, fun h => by omega, fun n hn => by cases hn⟩
  · simp at hcs
    obtain ⟨rfl, rfl, rfl⟩ := hcs
    have hzl : l ≤ zs.length := by rw [hz]; split <;> omega
    refine ⟨zs.take l, by simp; omega, hl, hm, fun h => ?_, fun n hn => hwz n (List.mem_of_mem_take hn)⟩
    obtain ⟨b, off, spot⟩ := x
    have h0 := hcell 0 (by omega)
    have hspot : spot = none := by simpa [Addr.add] using World.cell?_spot h0
    subst hspot
    refine ⟨b, off, rfl, ?_, fun i hi => ?_⟩
    · exact World.block_lt_of_cell? W _ h0
    · have := hcell i (by omega)
      rw [List.getD_eq_getElem?_getD, List.getElem?_take, if_pos hi, ← List.getD_eq_getElem?_getD]
      have e : (⟨b, off, none⟩ : Addr).add i = ⟨b, off + i, none⟩ := by simp only [Addr.add]; split <;> simp_all
      rw [e] at this; exact this

/-- A slice of records, read: what each element's cells say (hopen) says all. -/
theorem isRecs_of {α : Type} {K : Nat} {P : World → List Value → α → Prop} {H : Type} {enc : TypeId × Value → H} {W : World} {base : Nat} {spare : Nat → Bool} {held : Bool} {fuel : Nat} {t e : TypeId} {a : Option Addr} {l c : Nat} {y : DataW H × List MemPlace}
    (ht : Tryz.prog.underlying t = some (.slice e)) (hK : Tryz.prog.cellsOf e = K) (hK0 : 0 < K)
    (hopen : ∀ (n : Nat) (cs : List Value) (x : DataW H × List MemPlace), DataW.trod enc Tryz.prog W base spare held n e cs = some x → ∃ r : α, P W cs r)
    (hf : DataW.trod enc Tryz.prog W base spare held fuel t [.slice a l c] = some y) : ∃ xs : List α, IsRecs K P W a l c xs := by
  rcases DataW.trod_slice ht hf with ⟨h0, _⟩ | ⟨x, len, cap, elems, rest, n, _, hcs, _, hb, hl, hm, hlen, hel, _, _⟩
  · simp at h0
    obtain ⟨rfl, rfl, rfl⟩ := h0
    exact ⟨[], rfl, Nat.le_refl _, by unfold maxLen; omega, fun h => by omega⟩
  · simp at hcs
    obtain ⟨rfl, rfl, rfl⟩ := hcs
    have each : ∀ i : Fin l, ∃ r : α, ∃ vs : List Value, vs.length = K ∧ (∀ j, j < K → W.cell? ((x.add (i * K)).add j) = vs[j]?) ∧ P W vs r := fun i => by
      have h1 := hel i i.2
      rw [List.getElem?_eq_getElem (by rw [hlen]; exact i.2), Option.bind_eq_some_iff] at h1
      obtain ⟨cs', hc', hy'⟩ := h1
      obtain ⟨_, hcl, hcc⟩ := World.cells?_some hc'
      obtain ⟨r, hr⟩ := hopen _ _ _ hy'
      rw [hK] at hcl hcc
      exact ⟨r, cs', hcl, hcc, hr⟩
    refine ⟨List.ofFn fun i : Fin l => Classical.choose (each i), by simp, hl, hm, fun h => ?_⟩
    obtain ⟨b, off, spot⟩ := x
    have hadd : ∀ (o i : Nat), (⟨b, o, none⟩ : Addr).add i = ⟨b, o + i, none⟩ := fun o i => by simp only [Addr.add]; split <;> simp_all
    have hspot : spot = none ∧ b < W.heap.size := by
      obtain ⟨r, vs, hv, hc, _⟩ := each ⟨0, h⟩
      have h0 := hc 0 hK0
      rw [List.getElem?_eq_getElem (by omega)] at h0
      refine ⟨?_, ?_⟩
      · have := World.cell?_spot h0
        simpa [Addr.add] using this
      · have := World.block_lt_of_cell? W _ h0
        simpa [Addr.add] using this
    obtain ⟨rfl, hb2⟩ := hspot
    refine ⟨b, off, rfl, hb2, fun i hi => ?_⟩
    simp only [List.length_ofFn] at hi
    obtain ⟨vs, hv, hc, hp⟩ := Classical.choose_spec (each ⟨i, hi⟩)
    refine ⟨vs, hv, fun j hj => ?_, ?_⟩
    · have := hc j (by omega)
      rw [List.getElem?_eq_getElem hj, hadd, hadd] at this
      exact this
    · rw [List.getElem_ofFn]; exact hp

theorem trod_struct5 {H : Type} {enc : TypeId × Value → H} {P : Program} {w : World} {base : Nat} {spare : Nat → Bool} {held : Bool} {t : TypeId} {f0 f1 f2 f3 f4 : Field} {fuel : Nat} {cs : List Value} {x : DataW H × List MemPlace} (ht : P.underlying t = some (.struct #[f0, f1, f2, f3, f4])) (hone : oneCellFields P #[f0, f1, f2, f3, f4] = true) (hC : P.cellsOf t = 5) (h : DataW.trod enc P w base spare held fuel t cs = some x) :
    ∃ c0 c1 c2 c3 c4 y0 y1 y2 y3 y4 n, cs = [c0, c1, c2, c3, c4] ∧ DataW.trod enc P w base spare held n f0.type [c0] = some y0 ∧ DataW.trod enc P w base spare held n f1.type [c1] = some y1 ∧ DataW.trod enc P w base spare held n f2.type [c2] = some y2 ∧ DataW.trod enc P w base spare held n f3.type [c3] = some y3 ∧ DataW.trod enc P w base spare held n f4.type [c4] = some y4 := by
  obtain ⟨xs, n, _, rfl, hl, hlen, hf⟩ := DataW.trod_struct ht h
  rw [hC] at hl
  obtain ⟨o0, k0⟩ := hone_of hone 0 f0 rfl
  obtain ⟨o1, k1⟩ := hone_of hone 1 f1 rfl
  obtain ⟨o2, k2⟩ := hone_of hone 2 f2 rfl
  obtain ⟨o3, k3⟩ := hone_of hone 3 f3 rfl
  obtain ⟨o4, k4⟩ := hone_of hone 4 f4 rfl
  match xs, hlen, cs, hl with
  | [y0, y1, y2, y3, y4], _, [c0, c1, c2, c3, c4], _ =>
    exact ⟨c0, c1, c2, c3, c4, y0, y1, y2, y3, y4, n, rfl, by simpa [o0, k0] using hf 0 f0 rfl, by simpa [o1, k1] using hf 1 f1 rfl, by simpa [o2, k2] using hf 2 f2 rfl, by simpa [o3, k3] using hf 3 f3 rfl, by simpa [o4, k4] using hf 4 f4 rfl⟩
end Go.Proofs.YtghocdiddolinaaGreatDoor

namespace Go.Proofs.YtghocdiddolinaaGreatDoor
set_option linter.unusedVariables false
set_option linter.unusedSimpArgs false
open Go.ChangeShapes Go.WideShapes Go.ChangeAt Go.RowKit Go.Joins Go Go.Deep
open Go.ChangeMaps (open_string shut_string)

theorem own : ownKnob Tryz.prog.godebug = none := by kernel_rfl
theorem laidOut : laidOutB Tryz.prog = true := by kernel_rfl
theorem isRuls_of {H : Type} {enc : TypeId × Value → H} {W : World} {base : Nat} {spare : Nat → Bool} {held : Bool} {n : Nat} {a : Option Addr} {l c : Nat} {y : DataW H × List MemPlace} (hf : DataW.trod enc Tryz.prog W base spare held n 22 [.slice a l c] = some y) : ∃ rs, IsRuls W a l c rs := by
  refine isRecs_of (e := 66) Tryz.underlying22 (by kernel_rfl) (by omega) (fun n cs x hx => ?_) hf
  obtain ⟨c0, c1, c2, c3, c4, y0, y1, y2, y3, y4, m, rfl, h0, h1, h2, h3, h4⟩ := trod_struct5 Tryz.underlying66 (by kernel_rfl) (by kernel_rfl) hx
  obtain ⟨ev, e0, _, w0⟩ := DataW.trod_int Tryz.underlying3 h0
  obtain ⟨at_, e1, _, w1⟩ := DataW.trod_int Tryz.underlying3 h1
  obtain ⟨fr, e2, _, w2⟩ := DataW.trod_int Tryz.underlying3 h2
  obtain ⟨to_, e3, _, w3⟩ := DataW.trod_int Tryz.underlying3 h3
  obtain ⟨a', l', c', e4⟩ := slice_form Tryz.underlying23 h4
  simp only [List.cons.injEq, and_true] at e0 e1 e2 e3 e4
  subst e0 e1 e2 e3 e4
  obtain ⟨zs, hz⟩ := isRow_of h4
  exact ⟨⟨ev, at_, fr, to_, zs⟩, a', l', c', rfl, hz, w0, w1, w2, w3⟩
end Go.Proofs.YtghocdiddolinaaGreatDoor
