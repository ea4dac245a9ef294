/- The law's copies of entries of a history. -/
import Derived.Test.YtmfibpfnbhhoaaaDoorHE1
namespace Go.Proofs.YtmfibpfnbhhoaaaDoor
set_option linter.unusedVariables false
set_option linter.unusedSimpArgs false
open Go.RowKit Go

set_option maxHeartbeats 400000 in
theorem toHistEntry (kind id : Int) (key name : ByteArray) (a : Option Addr) (len cap : Nat) (zs : List Int) (w : World) (hr : IsRow .i64 w a len cap zs) (hs : len ≤ 1048576) :
    Calls Tryd.prog 12 #[.agg #[.int .i64 kind, .int .i64 id, .string key, .string name, .slice a len cap]] w fun e w' => (∃ b, e = .returned (.agg #[.int .i64 kind, .int .i64 id, .string key, .string name, .slice (some ⟨b, 0, none⟩) len len]) ∧ w.heap.size ≤ b ∧ IsRow .i64 w' (some ⟨b, 0, none⟩) len len zs) ∧ Below w.heap.size w w' := by
  have HT : Hid (∀ w, IsRow .i64 w a len cap zs → Calls Tryd.prog 25 #[.slice a len cap] w fun e w' => e = .returned (.slice (some ⟨w.heap.size, 0, none⟩) len len) ∧ IsRow .i64 w' (some ⟨w.heap.size, 0, none⟩) len len zs ∧ Below w.heap.size w w') := fun w hr => toIntS a len cap zs w hr hs
  have HR : Hid (IsRow .i64 w a len cap zs) := hr
  clear hr hs
  go_enter Tryd.func12, Tryd.ntmps12
  go_wp2_with fail
  refine (HT.out _ (by exact ((IsRow.alloc HR.out _).alloc _).alloc _)).mono ?_
  rintro e w1 ⟨rfl, hn, hb⟩
  obtain ⟨hcx, hfx⟩ := bcell hb
  go_wp2_with fail
  refine bodyPost_ret (v := .agg #[.int .i64 kind, .int .i64 id, .string key, .string name, .slice (some ⟨w.heap.size + 1 + 1 + 1, 0, none⟩) len len]) ?_ rfl ?_
  · simp [results, Tryd.results12, go_sem, hcx]
  · have e : ((((w.alloc
                  (Obj.cells #[Value.int IntKind.i64 kind, Value.int IntKind.i64 id, Value.string key, Value.string name, Value.slice a len cap]
                    32)).alloc
              (Obj.cells
                #[Value.int IntKind.i64 0, Value.int IntKind.i64 0, Value.string { data := #[] }, Value.string { data := #[] },
                  Value.slice none 0 0]
                35)).alloc
          (Obj.cells #[Value.int IntKind.i64 kind, Value.int IntKind.i64 id, Value.string key, Value.string name, Value.slice none 0 0]
            35))).heap.size = w.heap.size + 1 + 1 + 1 := by simp
    rw [e] at hn
    refine ⟨⟨_, rfl, by omega, ?_⟩, ?_⟩
    · exact (((((hn.setElse (by simp) _).setElse (by simp) _).setElse (by simp) _).setElse (by simp) _).setElse (by simp) _).setElse (by simp) _
    · have h3 : Below w.heap.size w w1 := bcall ((((Below.refl _ _).alloc (Nat.le_refl _) _).alloc (by simp) _).alloc (by simp; omega) _) (by simp; omega) hb
      exact (((((h3.setCell (by simp; omega) _).setCell (by simp) _).setCell (by simp) _).setCell (by simp) _).setCell (by simp) _).setCell (by simp) _

theorem info_HistEntry : (Tryd.prog.info? 35).map (fun i => (i.zero, i.size, i.bytes)) = some (some (.agg #[.int .i64 0, .int .i64 0, .string ByteArray.empty, .string ByteArray.empty, .slice none 0 0]), 5, 72) := by kernel_rfl

/-- What was copied, up to k. -/
def EntsTo (w wr : World) (N k : Nat) (cur : Array Value) (es : List Ent) : Prop :=
  ∀ i (h : i < es.length), i < k → ∃ b, N < b ∧ cur[i * 5]? = some (.int .i64 es[i].kind) ∧ cur[i * 5 + 1]? = some (.int .i64 es[i].id) ∧ cur[i * 5 + 2]? = some (.string es[i].key) ∧ cur[i * 5 + 3]? = some (.string es[i].name) ∧ cur[i * 5 + 4]? = some (.slice (some ⟨b, 0, none⟩) es[i].nums.length es[i].nums.length) ∧ IsRow .i64 wr (some ⟨b, 0, none⟩) es[i].nums.length es[i].nums.length es[i].nums

set_option maxHeartbeats 400000 in
theorem toHistEntryS (a : Option Addr) (len cap : Nat) (es : List Ent) (w : World) (hr : IsEnts w a len cap es) (hs : len ≤ 1048576) (hsm : ∀ i (h : i < es.length), entSmall es[i]) :
    Calls Tryd.prog 6 #[.slice a len cap] w fun e w' => e = .returned (.slice (some ⟨w.heap.size, 0, none⟩) len len) ∧ IsEnts w' (some ⟨w.heap.size, 0, none⟩) len len es ∧ Below w.heap.size w w' := by
  obtain ⟨hz, hm⟩ := IsRecs.len hr
  have HRW : Hid (IsEnts w a len cap es) := hr
  clear hr
  have hmk := run_make_recs (P := Tryd.prog) 25 35 _ 5 72 Tryd.underlying25 info_HistEntry .i64 .i64 len (by omega) (by omega)
  go_enter Tryd.func6, Tryd.ntmps6
  go_wp2
  go_loopw [4] (fun i wr => ∃ k : Nat, k ≤ len ∧ i = .int .i64 k ∧ ∃ cur, Holds wr w.heap.size 35 cur ∧ cur.size = len * 5 ∧ EntsTo w wr w.heap.size k cur es ∧ Below w.heap.size w wr) (fun i _ => len - (intOf i).toNat)
  case atStart => exact ⟨0, Nat.zero_le _, rfl, _, heap_alloc_new _ _, size_madeCells _ _, fun i _ h => by omega, (Below.refl _ _).alloc (Nat.le_refl _) _⟩
  case round =>
    obtain ⟨k, hk, rfl, cur, hg, hcs, hc, hb⟩ := hrel
    by_cases hlt : k < len
    · obtain ⟨b, off, rfl, h1, hbl, a', l', c', c0, c1, c2, c3, c4, hrow, hks, hns, _, _⟩ := IsEnts.at (IsEnts.below HRW.out hb) (i := k) (by omega)
      have hl := hrow.len
      have HT : Hid _ := toHistEntry es[k].kind es[k].id es[k].key es[k].name a' l' c' es[k].nums wr hrow (by have := hsm k (by omega); unfold entSmall at this; omega)
      go_wp2_with fail
      refine Calls.mono HT.out ?_
      rintro e w1 ⟨⟨b2, rfl, hb2, hrow2⟩, hw1⟩
      have HG1 := hg.below hw1
      have hf0 := HG1.frozen (k * 5)
      have hf1 := HG1.frozen (k * 5 + 1)
      have hf2 := HG1.frozen (k * 5 + 2)
      have hf3 := HG1.frozen (k * 5 + 3)
      have hf4 := HG1.frozen (k * 5 + 4)
      have hd0 : w1.cell? ⟨w.heap.size, k * 5, none⟩ = some cur[k * 5] := by rw [HG1.cell]; simp
      have hd1 : w1.cell? ⟨w.heap.size, k * 5 + 1, none⟩ = some cur[k * 5 + 1] := by rw [HG1.cell]; simp
      have hd2 : w1.cell? ⟨w.heap.size, k * 5 + 2, none⟩ = some cur[k * 5 + 2] := by rw [HG1.cell]; simp
      have hd3 : w1.cell? ⟨w.heap.size, k * 5 + 3, none⟩ = some cur[k * 5 + 3] := by rw [HG1.cell]; simp
      have hd4 : w1.cell? ⟨w.heap.size, k * 5 + 4, none⟩ = some cur[k * 5 + 4] := by rw [HG1.cell]; simp
      have H5 : Hid _ := HG1.set5 (k * 5) (.int .i64 es[k].kind) (.int .i64 es[k].id) (.string es[k].key) (.string es[k].name) (.slice (some ⟨b2, 0, none⟩) l' l') (by omega)
      go_wp2_with fail
      go_roundw
      case rel =>
        obtain ⟨cur', q, qs, qo, q0, q1, q2, q3, q4⟩ := H5.out
        refine ⟨k + 1, by omega, by go_num, cur', q, by omega, fun i hi hik => ?_, below_set5 (bcall hb hb.size hw1) (Nat.le_refl _) _ _ _ _ _ _⟩
        by_cases e : i = k
        · subst e
          have := hg.lt
          rw [hl.1]
          exact ⟨b2, by omega, q0, q1, q2, q3, q4, hrow2.set5 (by omega) _ _ _ _ _ _⟩
        · obtain ⟨b3, g, d0, d1, d2, d3, d4, hrow3⟩ := hc i hi (by omega)
          refine ⟨b3, g, ?_, ?_, ?_, ?_, ?_, (hrow3.below hw1).set5 (by omega) _ _ _ _ _ _⟩
          · rw [qo _ (by omega)]; exact d0
          · rw [qo _ (by omega)]; exact d1
          · rw [qo _ (by omega)]; exact d2
          · rw [qo _ (by omega)]; exact d3
          · rw [qo _ (by omega)]; exact d4
      case measure => simp [intOf]; omega
    · go_wp2
      go_ret
      refine ⟨rfl, ⟨hz, Nat.le_refl _, by unfold maxLen; omega, fun _ => ⟨_, 0, rfl, hg.lt, fun i hi => ?_⟩⟩, hb⟩
      obtain ⟨b, _, d0, d1, d2, d3, d4, hrow⟩ := hc i hi (by omega)
      obtain ⟨_, _, _, _, _, _, _, _, _, _, _, _, _, _, hks, hns, hw1, hw2⟩ := IsEnts.at HRW.out hi
      refine ⟨[.int .i64 es[i].kind, .int .i64 es[i].id, .string es[i].key, .string es[i].name, .slice (some ⟨b, 0, none⟩) es[i].nums.length es[i].nums.length], rfl, fun j hj => ?_, _, _, _, rfl, hrow, hks, hns, hw1, hw2⟩
      rw [hg.cell]
      simp only [List.length_cons, List.length_nil] at hj
      rcases (by omega : j = 0 ∨ j = 1 ∨ j = 2 ∨ j = 3 ∨ j = 4) with rfl | rfl | rfl | rfl | rfl <;> simpa using by assumption
end Go.Proofs.YtmfibpfnbhhoaaaDoor
