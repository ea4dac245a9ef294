/- Lists of numbers: their size, copied, compared. -/
import Derived.Test.YtnieaeakaajleaaDoorB2q
import Derived.WalkKit
import Derived.WalkSpells
import Derived.WalkLawsBesides
import Derived.Deep.OwnRows
namespace Go.Proofs.YtnieaeakaajleaaDoor
set_option linter.unusedVariables false
set_option linter.unusedSimpArgs false
open Go.RowKit Go

theorem info_int : (Tryd.prog.info? 3).map (fun i => (i.zero, i.size, i.bytes)) = some (some (.int .i64 0), 1, 8) := by kernel_rfl

theorem toInts_round {w wr : World} {len k : Nat} {zs : List Int} {cur : Array Value} (hk : k < len) (hg : wr.heap[w.heap.size]? = some (.cells cur 3 (0, 0))) (hs : cur.size = len)
    (hc : ∀ i, i < k → cur[i]? = some (.int .i64 (zs.getD i 0))) (hb : Below w.heap.size w wr) (x : Int) (hx : x = zs.getD k 0) :
    ∃ cur', (wr.setCell ⟨w.heap.size, k, none⟩ (.int .i64 x)).heap[w.heap.size]? = some (.cells cur' 3 (0, 0)) ∧ cur'.size = len ∧ (∀ i, i < k + 1 → cur'[i]? = some (.int .i64 (zs.getD i 0))) ∧ Below w.heap.size w (wr.setCell ⟨w.heap.size, k, none⟩ (.int .i64 x)) := by
  refine ⟨cur.setIfInBounds k (.int .i64 x), heap_setCell_same _ _ _ _ _ _ hg, by simp [hs], ?_, hb.setCell (Nat.le_refl _) _⟩
  intro i hi
  by_cases e : i = k
  · subst e; simp [hs, hk, hx]
  · rw [Array.getElem?_setIfInBounds_ne (by omega)]; exact hc i (by omega)

set_option maxHeartbeats 400000 in
theorem toInts (a : Option Addr) (len cap : Nat) (zs : List Int) (w : World) (hr : IsRow .i64 w a len cap zs) (hs : len ≤ 1048576) :
    Calls Tryd.prog 36 #[.slice a len cap] w fun e w' => ∃ cur, e = .returned (.slice (some ⟨w.heap.size, 0, none⟩) len len) ∧ w'.heap[w.heap.size]? = some (.cells cur 3 (0, 0)) ∧ cur.size = len ∧ (∀ i, i < len → cur[i]? = some (.int .i64 (zs.getD i 0))) ∧ Below w.heap.size w w' := by
  obtain ⟨hz, hm⟩ := hr.len
  have HRW : Hid (IsRow .i64 w a len cap zs) := hr
  clear hr
  have hmk := run_make_row' (P := Tryd.prog) 25 3 (.int .i64 0) 8 Tryd.underlying25 info_int rfl .i64 .i64 len (by omega) (by omega)
  go_enter Tryd.func36, Tryd.ntmps36
  go_wp2
  go_loopw [4] (fun i wr => ∃ k : Nat, k ≤ len ∧ i = .int .i64 k ∧ ∃ cur, wr.heap[w.heap.size]? = some (.cells cur 3 (0, 0)) ∧ cur.size = len ∧ (∀ i, i < k → cur[i]? = some (.int .i64 (zs.getD i 0))) ∧ Below w.heap.size w wr) (fun i _ => len - (intOf i).toNat)
  case atStart => exact ⟨0, Nat.zero_le _, rfl, _, heap_alloc_new _ _, size_madeCells _ _, fun i h => by omega, (Below.refl _ _).alloc (Nat.le_refl _) _⟩
  case round =>
    obtain ⟨k, hk, rfl, cur, hg, hcs, hc, hb⟩ := hrel
    by_cases hlt : k < len
    · have HR := fun x hx => toInts_round (w := w) hlt hg hcs hc hb x hx
      have HR : Hid _ := HR
      obtain ⟨b, off, rfl, h1, hbl, hck⟩ := IsRow.at HRW.out hlt
      have hc1 : wr.cell? ⟨b, off + k, none⟩ = some (.int .i64 (zs.getD k 0)) := (hb.cell (p := ⟨b, off + k, none⟩) hbl).trans hck
      have hf1 : wr.frozen? ⟨w.heap.size, k, none⟩ = false := frozen_of_row _ _ _ _ _ hg
      have hf2 : wr.cell? ⟨w.heap.size, k, none⟩ = some cur[k] := by rw [cell_of_row _ _ _ _ _ _ hg]; simp [hcs, hlt]
      clear hck hc hg
      go_wp2
      go_roundw
      case rel =>
        exact ⟨k + 1, by omega, by go_num, HR.out _ (getD_at zs k (by omega)).symm⟩
      case measure => simp [intOf]; omega
    · go_wp2
      go_ret
      exact ⟨cur, rfl, hg, hcs, fun i hi => hc i (by omega), hb⟩

set_option maxHeartbeats 400000 in
theorem szIntS (a : Option Addr) (len cap : Nat) (left : Int) (hl : -1 ≤ left ∧ left ≤ 1048576) (hm : len ≤ 9223372036854775807) (w : World) :
    Calls Tryd.prog 29 #[.slice a len cap, .int .i64 left] w fun e w' => e = .returned (.int .i64 (lessBy left len)) ∧ Below w.heap.size w w' := by
  go_enter Tryd.func29, Tryd.ntmps29
  by_cases h : left - len < 0
  · rw [lessBy_pos h]
    go_wp2
    all_goals go_ret
    exact ⟨rfl, Below.refl _ _⟩
  · rw [lessBy_neg h]
    go_wp2
    all_goals go_ret
    exact ⟨rfl, Below.refl _ _⟩

theorem toIntS (a : Option Addr) (len cap : Nat) (zs : List Int) (w : World) (hr : IsRow .i64 w a len cap zs) (hs : len ≤ 1048576) :
    Calls Tryd.prog 36 #[.slice a len cap] w fun e w' => e = .returned (.slice (some ⟨w.heap.size, 0, none⟩) len len) ∧ IsRow .i64 w' (some ⟨w.heap.size, 0, none⟩) len len zs ∧ Below w.heap.size w w' := by
  refine (toInts a len cap zs w hr hs).mono ?_
  rintro e w' ⟨cur, rfl, hg, hcs, hc, hb⟩
  refine ⟨rfl, ⟨hr.1, Nat.le_refl _, by unfold maxLen; omega, fun _ => ⟨w.heap.size, 0, rfl, ?_, fun i hi => ?_⟩, hr.wf⟩, hb⟩
  · rw [Array.getElem?_eq_some_iff] at hg; exact hg.1
  · rw [cell_of_row _ _ _ _ _ _ hg]; simpa using hc i hi
end Go.Proofs.YtnieaeakaajleaaDoor
